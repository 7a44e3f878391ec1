/- The reader of a letter in the program: all from label 1 on. The reader of a letter in the program: all from label 2 on. The reader of a letter in the program: all from label 3 on. The reader of a letter in the program: all from label 4 on. -/
import Derived.Test.YteninofjeidljaaGreatM16
namespace Go.Proofs.YteninofjeidljaaGreat

open Go.RowKit

set_option linter.unusedVariables false

set_option linter.unusedSimpArgs false

set_option maxRecDepth 8000 in
set_option maxHeartbeats 16000000 in
theorem alWalk1 (B g : Nat) (s : ByteArray) (V : Option (List Tk)) (w : World) (hgw : g < w.heap.size) (hs : s.size ≤ 4000) (h0 : ∀ i (hi : i < s.size), ¬ s[i].toNat = 0) (hdd : NoDD s) :
    ∀ c, Tryz.f102.body.bind scopeIn = some c → ∀ r, findLabel c 1 = some r → ∀ a w1, AJ1 B g s V w a w1 → r.wp Tryz.prog (jumpsTo (fun l' a' w' => AJ B g s V w l' a' w' ∧ AMU s g l' a' w' < AMU s g 1 a w1) (bodyPost Tryz.prog Tryz.f102 (AlPost B g s V w))) a w1 := by
  refine at_scope (P := fun c => ∀ r, findLabel c 1 = some r → _) rfl ?_
  refine at_scope rfl ?_
  rintro a' w1 ⟨m, q, tx, v, es, u3, u4, u5, u6, u7, u8, u9, u10, u11, u12, u13, u14, u15, u16, u17, u18, u19, u20, u21, u22, u23, u24, u25, u26, u27, u28, u29, u30, u31, u32, u33, u34, u35, u36, u37, u38, u39, u40, u41, u42, u43, rfl, ST⟩
  have HM := hid (show rdAt w1 g = q + 1 from rdAt_is ST.out.rdt.rdr)
  obtain ⟨hq, -⟩ := ST.out.st.2.1
  have h60 := ST.out.sg
  have HEX := hid (show pieceS s m (q + 1) = s.extract m q from rfl)
  have hxz : (s.extract m q).size ≤ 4000 := by rw [ByteArray.size_extract]; omega
  have huz := unS_size (s.extract m q)
  have hsm := ST.out.lx.sm
  have hml := ST.out.lx.le
  have CK := hid (cKeepText B g s (q + 1) m tx v es w1 ST.out.rdt (by have := ST.out.st.1; omega) (by omega) hs (by omega) (by rw [HEX.out]; omega))
  rw [HEX.out] at CK
  have HB1 := hid ST.out.bel
  cases hu : unescL (s.extract m q).data.toList with
  | none =>
    have HE := hid (show ansF V = none by rw [ST.out.lx.badText ST.out.st hu]; rfl)
    rw [hu] at CK
    replace CK := hid (show Calls Tryz.prog 142 #[.pointer (some ⟨g, 0, none⟩)] w1 fun x w' => x = .returned (.bool false) ∧ RdT w' B g s (q + 1) m (tx ++ unS (s.extract m q)) v es ∧ Below g w1 w' from CK.out)
    clear hu ST HEX huz
    go_wp2_with fail
    refine CK.out.mono ?_
    rintro e w3 ⟨rfl, -, hb3⟩
    have HB3 := hid (HB1.out.trans hb3)
    clear hb3 CK
    go_wp2_with fail
    try simp only [Exit.jump]
    go_ret
    exact AlPost.no HB3.out HE.out
  | some u =>
    have hun := unS_some hu
    rw [hu, hun] at CK
    have hlx := ST.out.lx.text ST.out.st (by rw [h60]; decide) hu
    have hel : es.length ≤ 1000 := by have := ST.out.lx.few; rw [List.length_map] at this; omega
    clear hu hun ST HEX huz
    replace CK := hid (show Calls Tryz.prog 142 #[.pointer (some ⟨g, 0, none⟩)] w1 fun x w' => x = .returned (.bool true) ∧ RdT w' B g s (q + 1) m (tx ++ bytesOf u) v es ∧ Below g w1 w' from CK.out)
    generalize tx ++ bytesOf u = TT at *
    have LX := hid hlx
    have hTz := hlx.sm
    clear hlx
    go_wp2_with fail
    refine CK.out.mono ?_
    rintro e w2 ⟨rfl, ht2, hb2⟩
    have HT2 := hid ht2
    have HB2 := hid (HB1.out.trans hb2)
    have CM := hid (cMark g s (q + 1) m TT v w2 ht2.rdr)
    clear ht2 hb2 CK HB1
    go_wp2_with fail
    refine CM.out.mono ?_
    rintro e w3 ⟨rfl, hr3, hk3⟩
    have HT3 := hid (HT2.out.next hr3 hk3)
    have HB3 := hid (HB2.out.trans (hk3.below (Nat.le_of_lt (lt_of_heap HT2.out.rdr.heap)) (fun k e => by rw [e]; exact Nat.le_refl _)))
    have CN := hid (cNext g s (q + 1) (q + 1) TT v w3 hr3 (by omega) (by omega))
    clear hr3 hk3 CM HT2 HB2
    go_wp2_with fail
    refine CN.out.mono ?_
    rintro e w4 ⟨rfl, hr4, hk4⟩
    have HT4 := hid (HT3.out.next hr4 hk4)
    have HB4 := hid (HB3.out.trans (hk4.below (Nat.le_of_lt (lt_of_heap HT3.out.rdr.heap)) (fun k e => by rw [e]; exact Nat.le_refl _)))
    clear hr4 hk4 CN HT3 HB3
    obtain ⟨sg, hsg⟩ : ∃ sg, sgnAt s (q + 1) = sg := ⟨_, rfl⟩
    rw [hsg]
    by_cases h33 : sg = 33
    · have n33 : (((sg : Nat) : Int) == 33) = true := by simp; omega
      have HMU := hid (show s.size + 5 - rdAt w4 g < s.size + 5 - rdAt w1 g by rw [rdAt_is HT4.out.rdr, HM.out]; omega)
      have HJ := hid (show SnSt 33 B g s V w q (q + 1) TT v es w4 from ⟨HT4.out, LX.out, h60, hsg.trans h33, HB4.out⟩)
      clear HT4 LX HB4 hsg
      go_wp2_with fail
      go_step3
      exact ⟨⟨q, q + 1, TT, v, es, _, _, _, _, _, _, _, _, _, _, _, _, _, _, _, _, _, _, _, _, _, _, _, _, _, _, _, _, _, _, _, _, _, _, _, _, _, _, _, _, _, rfl, HJ.out⟩, HMU.out⟩
    · have n33 : (((sg : Nat) : Int) == 33) = false := by simp; omega
      by_cases h47 : sg = 47
      · have n47 : (((sg : Nat) : Int) == 47) = true := by simp; omega
        have HMU := hid (show s.size + 5 - rdAt w4 g < s.size + 5 - rdAt w1 g by rw [rdAt_is HT4.out.rdr, HM.out]; omega)
        have HJ := hid (show SnSt 47 B g s V w q (q + 1) TT v es w4 from ⟨HT4.out, LX.out, h60, hsg.trans h47, HB4.out⟩)
        clear HT4 LX HB4 hsg
        go_wp2_with fail
        go_step3
        exact ⟨⟨q, q + 1, TT, v, es, _, _, _, _, _, _, _, _, _, _, _, _, _, _, _, _, _, _, _, _, _, _, _, _, _, _, _, _, _, _, _, _, _, _, _, _, _, _, _, _, _, rfl, HJ.out⟩, HMU.out⟩
      · have n47 : (((sg : Nat) : Int) == 47) = false := by simp; omega
        rw [← hsg] at h33 h47
        have HREM := hid (rem_no (s := s) (q := q) h33)
        have HS := hid hsg
        have CE := hid (cEndText B g s (q + 2) (q + 1) TT v es w4 HT4.out hel (by omega))
        clear HT4 hsg
        cases hfb : flushB TT es with
        | false =>
          have HE := hid (LX.out.badFlush h60 HREM.out (by rw [← flush_is]; exact flush_bad hfb))
          rw [hfb] at CE
          clear hfb LX
          go_wp2_with fail
          refine CE.out.mono ?_
          rintro e w5 ⟨rfl, -, hb5⟩
          have HB5 := hid (HB4.out.trans hb5)
          clear hb5 CE
          go_wp2_with fail
          try simp only [Exit.jump]
          go_ret
          exact AlPost.no HB5.out HE.out
        | true =>
          have hel2 : (flushE TT es).length ≤ 120 := by
            have := (flush_good hfb LX.out.ok LX.out.few).2
            rw [List.length_map] at this
            exact this
          have HFB := hid hfb
          rw [hfb] at CE
          clear hfb
          go_wp2_with fail
          refine CE.out.mono ?_
          rintro e w5 ⟨rfl, ⟨v5, ht5⟩, hb5⟩
          have HB5 := hid (HB4.out.trans hb5)
          have hld := lt_of_heap ht5.rdr.heap
          by_cases hl : q + 1 < s.size
          case neg =>
            have CTN := hid (cOpeningEnd g s (q + 1) ⟨#[]⟩ v5 w5 ht5.rdr (by omega) (by omega))
            have HE := hid (end_ans LX.out h60 hl)
            clear ht5 hb5 CE
            go_wp2_with fail
            refine CTN.out.mono ?_
            rintro x w6 ⟨rfl, hb6⟩
            have HB6 := hid (HB5.out.trans hb6)
            clear hb6 CTN
            go_wp2_with fail
            try simp only [Exit.jump]
            go_ret
            exact AlPost.no HB6.out HE.out
          have CTG := hid (cOpening B g s (q + 1) ⟨#[]⟩ v5 (flushE TT es) w5 ht5 hl hs (by omega) h0)
          have HANS := hid (fun x w' (h : OpPost B g s (q + 1) ⟨#[]⟩ (flushE TT es) w5 x w') => op_ans LX.out h60 h33 h47 hl HFB.out h)
          clear ht5 hb5 CE
          go_wp2_with fail
          refine CTG.out.mono ?_
          rintro x w6 hx6
          obtain ⟨b, rfl, hb6, hno, hyes⟩ := HANS.out x w6 hx6
          have HB6 := hid (HB5.out.trans hb6)
          have HNO := hid hno
          have HYES := hid hyes
          clear hb6 hno hyes CTG HANS hx6
          cases b with
          | false =>
            go_wp2_with fail
            try simp only [Exit.jump]
            go_ret
            exact AlPost.no HB6.out (HNO.out (by trivial))
          | true =>
            obtain ⟨e, m, v6, es6, ht6, hl6, hlt⟩ := HYES.out (by trivial)
            have HMU := hid (show s.size + 5 - rdAt w6 g < s.size + 5 - rdAt w1 g by rw [rdAt_is ht6.rdr, HM.out]; have := hl6.le; omega)
            have HJ := hid (show BtSt B g s V w e m ⟨#[]⟩ v6 es6 w6 from ⟨ht6, hl6, HB6.out⟩)
            clear ht6 hl6
            go_wp2_with fail
            go_step3
            exact ⟨⟨e, m, ⟨#[]⟩, v6, es6, _, _, _, _, _, _, _, _, _, _, _, _, _, _, _, _, _, _, _, _, _, _, _, _, _, _, _, _, _, _, _, _, _, _, _, _, _, _, _, _, _, rfl, HJ.out⟩, HMU.out⟩

end Go.Proofs.YteninofjeidljaaGreat

namespace Go.Proofs.YteninofjeidljaaGreat

open Go.RowKit

set_option linter.unusedVariables false

set_option linter.unusedSimpArgs false

set_option maxRecDepth 8000 in
set_option maxHeartbeats 16000000 in
theorem alWalk2 (B g : Nat) (s : ByteArray) (V : Option (List Tk)) (w : World) (hgw : g < w.heap.size) (hs : s.size ≤ 4000) (h0 : ∀ i (hi : i < s.size), ¬ s[i].toNat = 0) (hdd : NoDD s) :
    ∀ c, Tryz.f102.body.bind scopeIn = some c → ∀ r, findLabel c 2 = some r → ∀ a w1, AJ2 B g s V w a w1 → r.wp Tryz.prog (jumpsTo (fun l' a' w' => AJ B g s V w l' a' w' ∧ AMU s g l' a' w' < AMU s g 2 a w1) (bodyPost Tryz.prog Tryz.f102 (AlPost B g s V w))) a w1 := by
  refine at_scope (P := fun c => ∀ r, findLabel c 2 = some r → _) rfl ?_
  refine at_scope rfl ?_
  rintro a' w1 ⟨m, q, tx, v, es, u3, u4, u5, u6, u7, u8, u9, u10, u11, u12, u13, u14, u15, u16, u17, u18, u19, u20, u21, u22, u23, u24, u25, u26, u27, u28, u29, u30, u31, u32, u33, u34, u35, u36, u37, u38, u39, u40, u41, u42, u43, rfl, ST⟩
  have HM := hid (show rdAt w1 g = q from rdAt_is ST.out.rdt.rdr)
  have hlv := ST.out.le
  have CN := hid (cNext g s q m tx v w1 ST.out.rdt.rdr (by omega) (by omega))
  go_wp2_with fail
  refine CN.out.mono ?_
  rintro e w2 ⟨rfl, hr2, hk2⟩
  have HT2 := hid (ST.out.rdt.next hr2 hk2)
  have HB2 := hid (ST.out.bel.trans (hk2.below (Nat.le_of_lt (lt_of_heap ST.out.rdt.rdr.heap)) (fun k e => by rw [e]; exact Nat.le_refl _)))
  clear hr2 hk2 CN
  by_cases hq : q < s.size
  · have hz := h0 q hq
    have HSG := hid (show sgnAt s q = s[q].toNat by unfold sgnAt; rw [dif_pos hq])
    rw [HSG.out]
    have n0 : (((s[q].toNat : Nat) : Int) == 0) = false := by simp; omega
    have HMU := hid (show s.size + 5 - rdAt w2 g < s.size + 5 - rdAt w1 g by rw [rdAt_is HT2.out.rdr, HM.out]; have := ST.out.le; omega)
    by_cases h60 : s[q].toNat = 60
    · have n60 : (((s[q].toNat : Nat) : Int) == 60) = true := by simp; omega
      have HJ := hid (ST.out.tag hq h60 HT2.out HB2.out)
      generalize s[q].toNat = ch at *
      clear ST HSG
      go_wp2_with fail
      go_step3
      exact ⟨⟨m, q, tx, v, es, _, _, _, _, _, _, _, _, _, _, _, _, _, _, _, _, _, _, _, _, _, _, _, _, _, _, _, _, _, _, _, _, _, _, _, _, _, _, _, _, _, rfl, HJ.out⟩, HMU.out⟩
    · have n60 : (((s[q].toNat : Nat) : Int) == 60) = false := by simp; omega
      by_cases h62 : s[q].toNat = 62
      · have n62 : (((s[q].toNat : Nat) : Int) == 62) = true := by simp; omega
        have HE := hid (ST.out.greater hq h62)
        generalize s[q].toNat = ch at *
        clear ST HSG
        go_wp2_with fail
        try simp only [Exit.jump]
        go_ret
        exact AlPost.no HB2.out HE.out
      · have n62 : (((s[q].toNat : Nat) : Int) == 62) = false := by simp; omega
        have HJ := hid (ST.out.more hq (by unfold txtT; simp; omega) HT2.out HB2.out)
        generalize s[q].toNat = ch at *
        clear ST HSG
        go_wp2_with fail
        go_step3
        exact ⟨⟨m, q + 1, tx, v, es, _, _, _, _, _, _, _, _, _, _, _, _, _, _, _, _, _, _, _, _, _, _, _, _, _, _, _, _, _, _, _, _, _, _, _, _, _, _, _, _, _, rfl, HJ.out⟩, HMU.out⟩
  · have hqe : q = s.size := by omega
    have HSG := hid (show sgnAt s q = 0 by unfold sgnAt; rw [dif_neg hq])
    rw [HSG.out]
    have HEX := hid (show pieceS s m (q + 1) = s.extract m q from rfl)
    have hxz : (s.extract m q).size ≤ 4000 := by rw [ByteArray.size_extract]; omega
    have huz := unS_size (s.extract m q)
    have hsm := ST.out.lx.sm
    have hml := ST.out.lx.le
    have CK := hid (cKeepText B g s (q + 1) m tx v es w2 HT2.out (by have := ST.out.ge; omega) (by omega) hs (by omega) (by rw [HEX.out]; omega))
    rw [HEX.out] at CK
    have HNO := hid (show ∀ i (hi : i < s.size), m ≤ i → txtT s[i].toNat = false from fun i hi h1 => ST.out.no i hi h1 (by omega))
    cases hu : unescL (s.extract m q).data.toList with
    | none =>
      have HE := hid (show ansF V = none by rw [ST.out.lx.badEnd HNO.out (by rw [← hqe]; exact hu)]; rfl)
      rw [hu] at CK
      replace CK := hid (show Calls Tryz.prog 142 #[.pointer (some ⟨g, 0, none⟩)] w2 fun x w' => x = .returned (.bool false) ∧ RdT w' B g s (q + 1) m (tx ++ unS (s.extract m q)) v es ∧ Below g w2 w' from CK.out)
      clear hu ST HNO HEX hqe HSG huz
      go_wp2_with fail
      refine CK.out.mono ?_
      rintro e w3 ⟨rfl, -, hb3⟩
      have HB3 := hid (HB2.out.trans hb3)
      clear hb3 CK HT2
      go_wp2_with fail
      try simp only [Exit.jump]
      go_ret
      exact AlPost.no HB3.out HE.out
    | some u =>
      have hun := unS_some hu
      rw [hu, hun] at CK
      obtain ⟨hV, hzz⟩ := ST.out.lx.fin HNO.out (by rw [← hqe]; exact hu)
      have HFA := hid (flush_ans (B := B) (g := g) (s := s) (tx := tx ++ bytesOf u) (es := es) rfl hV ST.out.lx.ok ST.out.lx.few)
      have hel : es.length ≤ 1000 := by have := ST.out.lx.few; rw [List.length_map] at this; omega
      clear hu hun ST HNO HEX hqe HSG hV huz
      replace CK := hid (show Calls Tryz.prog 142 #[.pointer (some ⟨g, 0, none⟩)] w2 fun x w' => x = .returned (.bool true) ∧ RdT w' B g s (q + 1) m (tx ++ bytesOf u) v es ∧ Below g w2 w' from CK.out)
      generalize hTT : tx ++ bytesOf u = TT at *
      go_wp2_with fail
      refine CK.out.mono ?_
      rintro e w3 ⟨rfl, ht3, hb3⟩
      have HB3 := hid (HB2.out.trans hb3)
      have CE := hid (cEndText B g s (q + 1) m TT v es w3 ht3 hel (by omega))
      generalize hFB : flushB TT es = FB at *
      clear ht3 hb3 CK HT2 HB2
      go_wp2_with fail
      refine CE.out.mono ?_
      rintro e w4 ⟨rfl, ⟨v4, ht4⟩, hb4⟩
      have HT4 := hid ht4
      have HB4 := hid (HB3.out.trans hb4)
      clear ht4 hb4 CE HB3
      go_wp2_with fail
      try simp only [Exit.jump]
      go_ret
      exact ⟨FB, rfl, HB4.out, HFA.out.1, fun hh => ⟨_, _, _, v4, _, HT4.out, HFA.out.2 hh⟩⟩

end Go.Proofs.YteninofjeidljaaGreat

namespace Go.Proofs.YteninofjeidljaaGreat

open Go.RowKit

set_option linter.unusedVariables false

set_option linter.unusedSimpArgs false

set_option maxRecDepth 8000 in
set_option maxHeartbeats 16000000 in
theorem alWalk3 (B g : Nat) (s : ByteArray) (V : Option (List Tk)) (w : World) (hgw : g < w.heap.size) (hs : s.size ≤ 4000) (h0 : ∀ i (hi : i < s.size), ¬ s[i].toNat = 0) (hdd : NoDD s) :
    ∀ c, Tryz.f102.body.bind scopeIn = some c → ∀ r, findLabel c 3 = some r → ∀ a w1, AJ3 B g s V w a w1 → r.wp Tryz.prog (jumpsTo (fun l' a' w' => AJ B g s V w l' a' w' ∧ AMU s g l' a' w' < AMU s g 3 a w1) (bodyPost Tryz.prog Tryz.f102 (AlPost B g s V w))) a w1 := by
  refine at_scope (P := fun c => ∀ r, findLabel c 3 = some r → _) rfl ?_
  refine at_scope rfl ?_
  rintro a' w4 ⟨q, m, TT, v, es, u3, u4, u5, u6, u7, u8, u9, u10, u11, u12, u13, u14, u15, u16, u17, u18, u19, u20, u21, u22, u23, u24, u25, u26, u27, u28, u29, u30, u31, u32, u33, u34, u35, u36, u37, u38, u39, u40, u41, u42, u43, rfl, ST⟩
  have HE := hid (rm_ans ST.out.lx ST.out.sg ST.out.sc (hdd q ST.out.sg ST.out.sc))
  have CR := hid (cRemarkNo B g s (q + 2) m TT v es w4 ST.out.rdt (by obtain ⟨k, _⟩ := sgn_lt ST.out.sc (by decide); omega) hs (hdd q ST.out.sg ST.out.sc))
  have HB4 := hid ST.out.bel
  clear ST
  go_wp2_with fail
  refine CR.out.mono ?_
  rintro e w5 ⟨rfl, hb5⟩
  have HB5 := hid (HB4.out.trans hb5)
  clear hb5 CR
  go_wp2_with fail
  try simp only [Exit.jump]
  go_ret
  exact AlPost.no HB5.out HE.out

end Go.Proofs.YteninofjeidljaaGreat

namespace Go.Proofs.YteninofjeidljaaGreat

open Go.RowKit

set_option linter.unusedVariables false

set_option linter.unusedSimpArgs false

set_option maxRecDepth 8000 in
set_option maxHeartbeats 16000000 in
theorem alWalk4 (B g : Nat) (s : ByteArray) (V : Option (List Tk)) (w : World) (hgw : g < w.heap.size) (hs : s.size ≤ 4000) (h0 : ∀ i (hi : i < s.size), ¬ s[i].toNat = 0) (hdd : NoDD s) :
    ∀ c, Tryz.f102.body.bind scopeIn = some c → ∀ r, findLabel c 4 = some r → ∀ a w1, AJ4 B g s V w a w1 → r.wp Tryz.prog (jumpsTo (fun l' a' w' => AJ B g s V w l' a' w' ∧ AMU s g l' a' w' < AMU s g 4 a w1) (bodyPost Tryz.prog Tryz.f102 (AlPost B g s V w))) a w1 := by
  refine at_scope (P := fun c => ∀ r, findLabel c 4 = some r → _) rfl ?_
  refine at_scope rfl ?_
  rintro a' w4 ⟨q, m, TT, v, es, u3, u4, u5, u6, u7, u8, u9, u10, u11, u12, u13, u14, u15, u16, u17, u18, u19, u20, u21, u22, u23, u24, u25, u26, u27, u28, u29, u30, u31, u32, u33, u34, u35, u36, u37, u38, u39, u40, u41, u42, u43, rfl, ST⟩
  have HM := hid (show rdAt w4 g = q + 2 from rdAt_is ST.out.rdt.rdr)
  have h60 := ST.out.sg
  have h47 := ST.out.sc
  have LX := hid ST.out.lx
  have hTz := ST.out.lx.sm
  have hml := ST.out.lx.le
  have HB4 := hid ST.out.bel
  have HREM := hid (rem_no (s := s) (q := q) (by rw [h47]; decide))
  have hel : es.length ≤ 1000 := by have := ST.out.lx.few; rw [List.length_map] at this; omega
  have CE := hid (cEndText B g s (q + 2) m TT v es w4 ST.out.rdt hel (by omega))
  clear ST
  cases hfb : flushB TT es with
  | false =>
    have HE := hid (LX.out.badFlush h60 HREM.out (by rw [← flush_is]; exact flush_bad hfb))
    rw [hfb] at CE
    clear hfb LX
    go_wp2_with fail
    refine CE.out.mono ?_
    rintro e w5 ⟨rfl, -, hb5⟩
    have HB5 := hid (HB4.out.trans hb5)
    clear hb5 CE
    go_wp2_with fail
    try simp only [Exit.jump]
    go_ret
    exact AlPost.no HB5.out HE.out
  | true =>
    have hel2 : (flushE TT es).length ≤ 120 := by
      have := (flush_good hfb LX.out.ok LX.out.few).2
      rw [List.length_map] at this
      exact this
    have HFB := hid hfb
    rw [hfb] at CE
    clear hfb
    go_wp2_with fail
    refine CE.out.mono ?_
    rintro e w5 ⟨rfl, ⟨v5, ht5⟩, hb5⟩
    have HB5 := hid (HB4.out.trans hb5)
    have CTG := hid (cClosing B g s (q + 2) m ⟨#[]⟩ v5 (flushE TT es) w5 ht5 (by obtain ⟨k, _⟩ := sgn_lt h47 (by decide); omega) hs (by omega) h0)
    have HANS := hid (fun x w' (h : ClPost B g s (q + 2) ⟨#[]⟩ (flushE TT es) w5 x w') => cl_ans LX.out h60 h47 HFB.out h)
    clear ht5 hb5 CE
    go_wp2_with fail
    refine CTG.out.mono ?_
    rintro x w6 hx6
    obtain ⟨b, rfl, hb6, hno, hyes⟩ := HANS.out x w6 hx6
    have HB6 := hid (HB5.out.trans hb6)
    have HNO := hid hno
    have HYES := hid hyes
    clear hb6 hno hyes CTG HANS hx6
    cases b with
    | false =>
      go_wp2_with fail
      try simp only [Exit.jump]
      go_ret
      exact AlPost.no HB6.out (HNO.out (by trivial))
    | true =>
      obtain ⟨e, m, v6, es6, ht6, hl6, hlt⟩ := HYES.out (by trivial)
      have HMU := hid (show s.size + 5 - rdAt w6 g < s.size + 5 - rdAt w4 g by rw [rdAt_is ht6.rdr, HM.out]; have := hl6.le; omega)
      have HJ := hid (show BtSt B g s V w e m ⟨#[]⟩ v6 es6 w6 from ⟨ht6, hl6, HB6.out⟩)
      clear ht6 hl6
      go_wp2_with fail
      go_step3
      exact ⟨⟨e, m, ⟨#[]⟩, v6, es6, _, _, _, _, _, _, _, _, _, _, _, _, _, _, _, _, _, _, _, _, _, _, _, _, _, _, _, _, _, _, _, _, _, _, _, _, _, _, _, _, _, rfl, HJ.out⟩, HMU.out⟩

end Go.Proofs.YteninofjeidljaaGreat
