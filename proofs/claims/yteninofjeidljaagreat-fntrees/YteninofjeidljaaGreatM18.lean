/- The reader of a letter in the program: contract of all. Contract of Tokens of the program, of letters in which no remark begins. Contracts of the pile of numbers: taken off, laid on, down to. What lies on the pile while a tree is looked at (plain mathematics). -/
import Derived.Test.YteninofjeidljaaGreatM16
import Derived.Test.YteninofjeidljaaGreatM17
import Derived.Test.YteninofjeidljaaGreatM5
import Derived.Test.YteninofjeidljaaGreatM7
namespace Go.Proofs.YteninofjeidljaaGreat

open Go.RowKit

set_option linter.unusedVariables false

set_option linter.unusedSimpArgs false

set_option maxRecDepth 8000 in
set_option maxHeartbeats 16000000 in
theorem cAll (B g : Nat) (s : ByteArray) (V : Option (List Tk)) (p m0 : Nat) (tx : ByteArray) (v : Value) (es : List Tn.E) (w : World) (h : RdT w B g s p m0 tx v es) (hx : LxSt s V p tx (es.map (·.t))) (hs : s.size ≤ 4000) (h0 : ∀ i (hi : i < s.size), ¬ s[i].toNat = 0) (hdd : NoDD s) :
    Calls Tryz.prog 102 #[.pointer (some ⟨g, 0, none⟩)] w (AlPost B g s V w) := by
  have hgw := lt_of_heap h.rdr.heap
  obtain ⟨w0, hw0⟩ : ∃ w0, w = w0 := ⟨_, rfl⟩
  have S0 := hid (show BtSt B g s V w p m0 tx v es w0 from ⟨by rw [← hw0]; exact h, hx, by rw [← hw0]; exact Below.refl _ _⟩)
  clear h hx
  go_enter Tryz.func102, Tryz.ntmps102
  go_wp2_with fail
  refine wp_scope_five (AJ0 B g s V w) (AJ1 B g s V w) (AJ2 B g s V w) (AJ3 B g s V w) (AJ4 B g s V w) (AMU s g) rfl rfl rfl rfl rfl ?_ (alWalk0 B g s V w hgw hs h0 hdd _ rfl _ rfl) (alWalk1 B g s V w hgw hs h0 hdd _ rfl _ rfl) (alWalk2 B g s V w hgw hs h0 hdd _ rfl _ rfl) (alWalk3 B g s V w hgw hs h0 hdd _ rfl _ rfl) (alWalk4 B g s V w hgw hs h0 hdd _ rfl _ rfl)
  go_wp2_with fail
  try go_step3
  simp only [hw0]
  have CM := hid (cMark g s p m0 tx v w0 S0.out.rdt.rdr)
  have hp := S0.out.lx.le
  go_wp2_with fail
  refine CM.out.mono ?_
  rintro e w1 ⟨rfl, hr1, hk1⟩
  obtain ⟨m, hm⟩ : ∃ m, m = p := ⟨_, rfl⟩
  obtain ⟨q, hqp⟩ : ∃ q, q = p := ⟨_, rfl⟩
  have ST := hid (show InSt B g s V w m q tx v es w1 from ⟨by rw [hm, hqp]; exact S0.out.rdt.next hr1 hk1, by rw [hm]; exact S0.out.lx, by omega, by omega, fun i hi h1 h2 => by omega, S0.out.bel.trans (hk1.below (Nat.le_of_lt (lt_of_heap S0.out.rdt.rdr.heap)) (fun k e => by rw [e]; exact Nat.le_refl _))⟩)
  clear hr1 hk1 CM hm hqp S0 hp
  go_wp2_with fail
  try go_step3
  have hlv := ST.out.le
  have CN := hid (cNext g s q m tx v w1 ST.out.rdt.rdr (by omega) (by omega))
  go_wp2_with fail
  refine CN.out.mono ?_
  rintro e w2 ⟨rfl, hr2, hk2⟩
  have HT2 := hid (ST.out.rdt.next hr2 hk2)
  have HB2 := hid (ST.out.bel.trans (hk2.below (Nat.le_of_lt (lt_of_heap ST.out.rdt.rdr.heap)) (fun k e => by rw [e]; exact Nat.le_refl _)))
  clear hr2 hk2 CN
  by_cases hq : q < s.size
  · have hz := h0 q hq
    have HSG := hid (show sgnAt s q = s[q].toNat by unfold sgnAt; rw [dif_pos hq])
    rw [HSG.out]
    have n0 : (((s[q].toNat : Nat) : Int) == 0) = false := by simp; omega
    by_cases h60 : s[q].toNat = 60
    · have n60 : (((s[q].toNat : Nat) : Int) == 60) = true := by simp; omega
      have HJ := hid (ST.out.tag hq h60 HT2.out HB2.out)
      generalize s[q].toNat = ch at *
      clear ST HSG
      go_wp2_with fail
      go_step3
      exact ⟨m, q, tx, v, es, _, _, _, _, _, _, _, _, _, _, _, _, _, _, _, _, _, _, _, _, _, _, _, _, _, _, _, _, _, _, _, _, _, _, _, _, _, _, _, _, _, rfl, HJ.out⟩
    · have n60 : (((s[q].toNat : Nat) : Int) == 60) = false := by simp; omega
      by_cases h62 : s[q].toNat = 62
      · have n62 : (((s[q].toNat : Nat) : Int) == 62) = true := by simp; omega
        have HE := hid (ST.out.greater hq h62)
        generalize s[q].toNat = ch at *
        clear ST HSG
        go_wp2_with fail
        try simp only [Exit.jump]
        go_ret
        exact AlPost.no HB2.out HE.out
      · have n62 : (((s[q].toNat : Nat) : Int) == 62) = false := by simp; omega
        have HJ := hid (ST.out.more hq (by unfold txtT; simp; omega) HT2.out HB2.out)
        generalize s[q].toNat = ch at *
        clear ST HSG
        go_wp2_with fail
        go_step3
        exact ⟨m, q + 1, tx, v, es, _, _, _, _, _, _, _, _, _, _, _, _, _, _, _, _, _, _, _, _, _, _, _, _, _, _, _, _, _, _, _, _, _, _, _, _, _, _, _, _, _, rfl, HJ.out⟩
  · have hqe : q = s.size := by omega
    have HSG := hid (show sgnAt s q = 0 by unfold sgnAt; rw [dif_neg hq])
    rw [HSG.out]
    have HEX := hid (show pieceS s m (q + 1) = s.extract m q from rfl)
    have hxz : (s.extract m q).size ≤ 4000 := by rw [ByteArray.size_extract]; omega
    have huz := unS_size (s.extract m q)
    have hsm := ST.out.lx.sm
    have hml := ST.out.lx.le
    have CK := hid (cKeepText B g s (q + 1) m tx v es w2 HT2.out (by have := ST.out.ge; omega) (by omega) hs (by omega) (by rw [HEX.out]; omega))
    rw [HEX.out] at CK
    have HNO := hid (show ∀ i (hi : i < s.size), m ≤ i → txtT s[i].toNat = false from fun i hi h1 => ST.out.no i hi h1 (by omega))
    cases hu : unescL (s.extract m q).data.toList with
    | none =>
      have HE := hid (show ansF V = none by rw [ST.out.lx.badEnd HNO.out (by rw [← hqe]; exact hu)]; rfl)
      rw [hu] at CK
      replace CK := hid (show Calls Tryz.prog 142 #[.pointer (some ⟨g, 0, none⟩)] w2 fun x w' => x = .returned (.bool false) ∧ RdT w' B g s (q + 1) m (tx ++ unS (s.extract m q)) v es ∧ Below g w2 w' from CK.out)
      clear hu ST HNO HEX hqe HSG huz
      go_wp2_with fail
      refine CK.out.mono ?_
      rintro e w3 ⟨rfl, -, hb3⟩
      have HB3 := hid (HB2.out.trans hb3)
      clear hb3 CK HT2
      go_wp2_with fail
      try simp only [Exit.jump]
      go_ret
      exact AlPost.no HB3.out HE.out
    | some u =>
      have hun := unS_some hu
      rw [hu, hun] at CK
      obtain ⟨hV, hzz⟩ := ST.out.lx.fin HNO.out (by rw [← hqe]; exact hu)
      have HFA := hid (flush_ans (B := B) (g := g) (s := s) (tx := tx ++ bytesOf u) (es := es) rfl hV ST.out.lx.ok ST.out.lx.few)
      have hel : es.length ≤ 1000 := by have := ST.out.lx.few; rw [List.length_map] at this; omega
      clear hu hun ST HNO HEX hqe HSG hV huz
      replace CK := hid (show Calls Tryz.prog 142 #[.pointer (some ⟨g, 0, none⟩)] w2 fun x w' => x = .returned (.bool true) ∧ RdT w' B g s (q + 1) m (tx ++ bytesOf u) v es ∧ Below g w2 w' from CK.out)
      generalize hTT : tx ++ bytesOf u = TT at *
      go_wp2_with fail
      refine CK.out.mono ?_
      rintro e w3 ⟨rfl, ht3, hb3⟩
      have HB3 := hid (HB2.out.trans hb3)
      have CE := hid (cEndText B g s (q + 1) m TT v es w3 ht3 hel (by omega))
      generalize hFB : flushB TT es = FB at *
      clear ht3 hb3 CK HT2 HB2
      go_wp2_with fail
      refine CE.out.mono ?_
      rintro e w4 ⟨rfl, ⟨v4, ht4⟩, hb4⟩
      have HT4 := hid ht4
      have HB4 := hid (HB3.out.trans hb4)
      clear ht4 hb4 CE HB3
      go_wp2_with fail
      try simp only [Exit.jump]
      go_ret
      exact ⟨FB, rfl, HB4.out, HFA.out.1, fun hh => ⟨_, _, _, v4, _, HT4.out, HFA.out.2 hh⟩⟩

end Go.Proofs.YteninofjeidljaaGreat

namespace Go.Proofs.YteninofjeidljaaGreat

open Go.RowKit

set_option linter.unusedVariables false

set_option linter.unusedSimpArgs false

theorem plain_zero {s : ByteArray} (h : plainL s.data.toList = true) : ∀ i (hi : i < s.size), ¬ s[i].toNat = 0 := by
  intro i hi e
  unfold plainL at h
  have h1 := List.all_eq_true.1 h s[i] (List.getElem_mem _)
  rw [e] at h1
  exact absurd h1 (by decide)

/-- What is right is small. -/
theorem tok_small {t : Tk} (h : tokB t = true) : TkSz 1048576 t := by
  have nm : ∀ l : List UInt8, nameL l = true → l.length ≤ 21 := fun l h => by
    unfold nameL at h
    split at h
    · unfold lettersL at h
      simp only [Bool.and_eq_true, decide_eq_true_eq] at h
      omega
    · rename_i a ha
      rw [Bool.and_eq_true] at h
      obtain ⟨h1, h2⟩ := h
      unfold lettersL at h1 h2
      simp only [Bool.and_eq_true, decide_eq_true_eq] at h1 h2
      have e1 : (preL l).length = min a l.length := by unfold preL; rw [ha]; simp
      have e2 : (locL l).length = l.length - (a + 1) := by unfold locL; rw [ha]; simp
      have : a < l.length := by
        unfold colonAt at ha
        rw [List.findIdx?_eq_some_iff_getElem] at ha
        exact ha.1
      omega
  unfold tokB at h
  split at h
  · rw [Bool.and_eq_true, Bool.and_eq_true] at h
    have ho : AttrsOk t.attrs := by
      by_cases q : AttrsOk t.attrs
      · exact q
      · rw [attrsB_f q] at h; cases h.2.1
    have h1 := nm _ h.1
    rw [← sz] at h1
    refine ⟨by omega, by have := ho.1; omega, fun x hx => ?_, by have := of_decide_eq_true h.2.2; omega⟩
    obtain ⟨j, hj, rfl⟩ := List.getElem_of_mem hx
    obtain ⟨z1, z2, z3⟩ := ho.2.1 j hj hj
    have := nm _ z1
    rw [← sz] at this
    exact ⟨by omega, by omega⟩
  · split at h
    · rw [Bool.and_eq_true, Bool.and_eq_true] at h
      have h1 := nm _ h.1
      rw [← sz] at h1
      have hl := of_decide_eq_true h.2.1
      exact ⟨by omega, by omega, fun x hx => by rw [List.eq_nil_of_length_eq_zero hl] at hx; exact absurd hx List.not_mem_nil, by have := of_decide_eq_true h.2.2; omega⟩
    · split at h
      · rw [Bool.and_eq_true, Bool.and_eq_true] at h
        have hl := of_decide_eq_true h.2.1
        have h1 := of_decide_eq_true h.1
        have h3 := h.2.2
        unfold textB at h3
        rw [Bool.and_eq_true] at h3
        have := of_decide_eq_true h3.2
        exact ⟨by omega, by omega, fun x hx => by rw [List.eq_nil_of_length_eq_zero hl] at hx; exact absurd hx List.not_mem_nil, by omega⟩
      · cases h

theorem toks_right {l : List UInt8} {ts : List Tk} (h : toksF l = some ts) : (∀ t ∈ ts, tokB t = true) ∧ ts.length ≤ 120 := by
  unfold toksF at h
  split at h
  · split at h
    · cases h
    · split at h
      · rename_i q
        simp only [Option.some.injEq] at h
        subst h
        exact q
      · cases h
  · cases h

/-- What Tokens of the program tells. -/
def TokPostI (s : ByteArray) (w : World) (e : Ending) (w' : World) : Prop :=
  (toksF s.data.toList = none → e = .returned (.tuple #[.slice none 0 0, .bool false])) ∧
  (∀ ts, toksF s.data.toList = some ts → ∃ a c es, e = .returned (.tuple #[.slice a ts.length c, .bool true]) ∧ Tn.Row w' w.heap.size (.slice a ts.length c) es ∧ es.map (·.t) = ts) ∧ Below w.heap.size w w'

theorem tokPostI_no {s : ByteArray} {w w' : World} (h : toksF s.data.toList = none) (hb : Below w.heap.size w w') : TokPostI s w (.returned (.tuple #[.slice none 0 0, .bool false])) w' :=
  ⟨fun _ => rfl, fun ts ht => (by rw [h] at ht; cases ht), hb⟩

set_option maxRecDepth 8000 in
set_option maxHeartbeats 8000000 in
theorem cTokensI (s : ByteArray) (w : World) (hs : s.size ≤ maxLen) (hdd : NoDD s) : Calls Tryz.prog 51 #[.string s] w (TokPostI s w) := by
  have hlen : s.data.toList.length = s.size := rfl
  have hm : s.size ≤ 9223372036854775807 := by unfold maxLen at hs; exact hs
  by_cases hbig : s.size ≤ 4000
  case neg =>
    have HN := hid (show toksF s.data.toList = none by unfold toksF; rw [if_neg (fun h => hbig (by rw [← hlen]; exact h.1))])
    have hd3 : decide ((4000 : Int) < (s.size : Int)) = true := decide_eq_true (by omega)
    clear hs hlen hdd
    go_enter Tryz.func51, Tryz.ntmps51
    go_wp2_with fail
    go_ret2
    exact tokPostI_no HN.out (Below.refl _ _)
  have hd3 : decide ((4000 : Int) < (s.size : Int)) = false := decide_eq_false (by omega)
  have CP := hid (fun wx => c_impl_PlainOk s wx hs)
  cases hpl : plainL s.data.toList with
  | false =>
    rw [hpl] at CP
    have HN := hid (show toksF s.data.toList = none by unfold toksF; rw [if_neg (fun h => by rw [hpl] at h; exact Bool.false_ne_true h.2)])
    clear hpl hs hlen hdd
    go_enter Tryz.func51, Tryz.ntmps51
    go_wp2_with fail
    refine (CP.out _).mono ?_
    rintro e w1 ⟨rfl, rfl⟩
    go_wp2_with fail
    go_ret2
    exact tokPostI_no HN.out (Below.refl _ _)
  | true =>
    rw [hpl] at CP
    have HTA := hid (toks_ans hbig hpl)
    have H0 := hid (plain_zero hpl)
    obtain ⟨V, hV⟩ : ∃ V, lexL (s.size + 1) s.data.toList [] [] = V := ⟨_, rfl⟩
    have HLX := hid (LxSt.start s)
    rw [hV] at HTA HLX
    have HB1 := hid ((Below.refl w.heap.size w).alloc (Nat.le_refl _) (.cells #[.string s, .int .i64 0, .int .i64 0, .string ⟨#[]⟩, .slice none 0 0] 136))
    have HH1 := hid (heap_alloc_new w (.cells #[.string s, .int .i64 0, .int .i64 0, .string ⟨#[]⟩, .slice none 0 0] 136))
    have HSZ := hid (show (w.alloc (.cells #[.string s, .int .i64 0, .int .i64 0, .string ⟨#[]⟩, .slice none 0 0] 136)).heap.size = w.heap.size + 1 by simp)
    have CA := hid (cAll (w.heap.size + 1) w.heap.size s V 0 0 ⟨#[]⟩ (.slice none 0 0) [] (w.alloc (.cells #[.string s, .int .i64 0, .int .i64 0, .string ⟨#[]⟩, .slice none 0 0] 136)) ⟨⟨HH1.out⟩, Tn.Row.start0 _ _, by omega, by rw [HSZ.out]; exact Nat.le_refl _⟩ HLX.out hbig H0.out hdd)
    clear hpl hs hlen hdd hV HLX H0
    go_enter Tryz.func51, Tryz.ntmps51
    go_wp2_with fail
    refine (CP.out _).mono ?_
    rintro e w0 ⟨rfl, rfl⟩
    clear CP
    go_wp2_with fail
    refine CA.out.mono ?_
    rintro e w2 ⟨b, rfl, hb2, hno, hyes⟩
    have HB2 := hid (show Below w0.heap.size w0 w2 from HB1.out.trans hb2)
    have HNO := hid hno
    have HYES := hid hyes
    clear hb2 hno hyes CA HB1 HH1 HSZ
    cases b with
    | false =>
      have HN := hid (HTA.out.trans (HNO.out rfl))
      clear HNO HYES
      go_wp2_with fail
      go_ret2
      exact tokPostI_no HN.out HB2.out
    | true =>
      obtain ⟨p, m, tx, v, es, hr, ha⟩ := HYES.out rfl
      obtain ⟨⟨-, -, -, -, c4⟩, -⟩ := hr.rdr.cells
      obtain ⟨a4, c4', rfl⟩ := hr.row.slice
      have HROW := hid (hr.row.mono (B := w0.heap.size) (by omega))
      have HN := hid (HTA.out.trans ha)
      clear HNO HYES hr ha
      obtain ⟨n, hn⟩ : ∃ n, es.length = n := ⟨_, rfl⟩
      have HL := hid hn
      rw [hn] at c4 HROW
      clear hn
      go_wp2_with fail
      go_ret2
      refine ⟨fun h => (by rw [HN.out] at h; cases h), fun ts ht => ?_, HB2.out⟩
      rw [HN.out] at ht
      simp only [Option.some.injEq] at ht
      subst ht
      have hl : (es.map (·.t)).length = n := by rw [List.length_map]; exact HL.out
      rw [hl]
      exact ⟨a4, c4', es, rfl, HROW.out, rfl⟩

end Go.Proofs.YteninofjeidljaaGreat

namespace Go.Proofs.YteninofjeidljaaGreat

open Go.RowKit

set_option linter.unusedVariables false

set_option linter.unusedSimpArgs false

set_option maxHeartbeats 2000000 in
theorem cPiTake (B g o : Nat) (cur : Array Value) (T : TypeId) (v : Value) (x : Nat) (L : List Nat) (w : World) (h : PileI w B g o cur T v (x :: L)) (hn : L.length ≤ 1048576) :
    Calls Tryz.prog 105 #[.pointer (some ⟨g, o, none⟩)] w fun e w' => e = .returned (.tuple #[.int .i64 (x : Int), .bool true]) ∧ (∃ v', PileI w' B g o (cur.setIfInBounds o v') T v' L ∧ v'.ownBlock = v.ownBlock) ∧ KeepB (fun k => k = g) w w' := by
  have C := hid (cPiTop B g o cur T v x L w h hn)
  obtain ⟨b, c, rfl, hb, _, hc, hcs⟩ := own_pos h.row (Nat.succ_pos _)
  clear hcs
  have HP := hid h
  clear h
  obtain ⟨n, hnn⟩ : ∃ n, L.length = n := ⟨_, rfl⟩
  have HN := hid hnn
  have hl : (x :: L).length = n + 1 := by rw [List.length_cons, hnn]
  have HL := hid hl
  rw [hl] at hc
  rw [hnn] at hn
  clear hnn hl
  go_enter Tryz.func105, Tryz.ntmps105
  go_wp2_with fail
  refine C.out.mono ?_
  rintro e w1 ⟨rfl, hb1⟩
  have HP1 := hid (HP.out.below hb1)
  have HB1 := hid hb1
  have c0 := HP1.out.cell
  have f0 := frozen_of_row w1 g o cur T HP1.out.blk
  have hlt := HP1.out.lt
  rw [HL.out] at c0
  have HS := hid (HP1.out.less HN.out)
  clear hb1 C HP
  have hq : ((n + 1 : Nat) : Int) = (n : Int) + 1 := by omega
  go_wp2_with fail
  go_region
  go_wp2_with fail
  go_ret2
  exact ⟨rfl, ⟨_, HS.out.drew, rfl⟩, (KeepB.of_below _ HB1.out).trans (KeepB.of_set (p := fun k => k = g) _ _ _ rfl).drew⟩

set_option maxHeartbeats 2000000 in
theorem cPiLay (B g o : Nat) (cur : Array Value) (T : TypeId) (v : Value) (x : Nat) (L : List Nat) (w : World) (h : PileI w B g o cur T v L) (hn : L.length ≤ 1048576) :
    Calls Tryz.prog 62 #[.pointer (some ⟨g, o, none⟩), .int .i64 (x : Int)] w fun e w' => e = .returned (.tuple #[]) ∧ (∃ v', PileI w' B g o (cur.setIfInBounds o v') T v' (x :: L)) ∧ Below B w w' := by
  obtain ⟨i0, hi, hz0, hz1, hz2⟩ := info_parts info64
  have c0 := h.cell
  have hlt := h.lt
  have hB : B ≤ w.heap.size := Nat.le_trans h.ge (Nat.le_of_lt hlt)
  have HP := hid (h.below ((Below.refl w.heap.size w).alloc (Nat.le_refl _) (.cells #[.int .i64 (x : Int)] 2)))
  clear h
  go_enter Tryz.func62, Tryz.ntmps62
  go_wp2_with (at_builtin; refine wpList_append_own_at _ rfl _ _ 84 rfl B 2 i0 (.int .i64 0) 1 8 Tryz.underlying84 hi hz0 hz1 hz2 rfl (by decide) _ _ _ rfl HP.out.row ⟨w.heap.size, 0, none⟩ 1 1 [.int .i64 (x : Int)] rfl rfl ?c1 ?c2 ?c3 ?c4 ?c5 ?_)
  case c1 => exact one_cell64 _ _
  case c2 => exact one_one64 _
  case c3 => unfold maxLen; omega
  case c4 => omega
  case c5 => simp; omega
  intro v' w2 hown' hgrow _ hv'
  have hblk := (hgrow.block g (by simp; omega) (fun e => HP.out.own_ne e.symm)).trans HP.out.blk
  have hne : v'.ownBlock ≠ some g := by
    rcases hv' with e | e
    · rw [e]; exact HP.out.own_ne
    · rw [e]; simp; omega
  have HB2 := hid ((((Below.refl B w).alloc hB (.cells #[.int .i64 (x : Int)] 2)).grown hgrow (by simp; omega) (fun k hk => (HP.out.row.lt k hk).1)).setCell (p := ⟨g, o, none⟩) HP.out.ge v')
  have HP2 := hid (PileAt.mk_set (w := w2) HP.out.ge hblk HP.out.at_ HP.out.ne hown' hne)
  have f0 := frozen_of_row w2 g o cur T hblk
  have c2 := show w2.cell? ⟨g, o, none⟩ = some v by rw [Lib.cell_of_heap hblk]; exact HP.out.at_
  obtain ⟨a', c', hvv⟩ := own_len hown'
  have HR := hid (show intC (x :: L).reverse = intC L.reverse ++ [.int .i64 (x : Int)] by rw [List.reverse_cons, intC_app]; rfl)
  subst hvv
  clear hown' hgrow hv' hblk hne c0
  go_wp2_with fail
  go_end0
  have hp := HP2.out
  rw [← HR.out] at hp
  exact ⟨rfl, ⟨_, hp⟩, HB2.out⟩

set_option maxHeartbeats 1000000 in
theorem cTreeOk1 (x : Nat) (P : Int) (b : Nat) (w : World) (hc : w.cell? ⟨b, 0, none⟩ = some (.int .i64 P)) :
    Calls Tryz.prog 58 #[.int .i64 (x : Int), .pointer (some ⟨b, 0, none⟩)] w fun e w' => e = .returned (.bool (decide ((x : Int) = P))) ∧ w' = w := by
  have hd : ((x : Int) == P) = decide ((x : Int) = P) := rfl
  generalize decide ((x : Int) = P) = D at *
  go_enter Tryz.func58, Tryz.ntmps58
  go_wp2
  go_ret
  exact ⟨rfl, rfl⟩

/-- What is not the parent. -/
def notP (P : Int) (x : Nat) : Bool := !decide ((x : Int) = P)

theorem dropWhile_at {α : Type} {p : α → Bool} : ∀ {l : List α} {i : Nat}, (∀ x ∈ l.take i, p x = true) → (∀ h : i < l.length, p l[i] = false) → l.dropWhile p = l.drop i
  | [], i, _, _ => by simp
  | x :: l, 0, _, h => by
    have := h (by simp)
    simp only [List.getElem_cons_zero] at this
    rw [List.dropWhile_cons, this]
    rfl
  | x :: l, i + 1, h1, h2 => by
    rw [List.dropWhile_cons, h1 x (by simp), List.drop_succ_cons]
    simp only [if_true]
    exact dropWhile_at (fun y hy => h1 y (by simp [hy])) (fun h => by have := h2 (by simpa using h); simpa using this)

theorem KeepB.below_of {p : Nat → Prop} {w w1 w' : World} (h : KeepB p w w1) (hb : Below w1.heap.size w1 w') : KeepB p w w' := h.trans (KeepB.of_below p hb)

/-- But for one cell. -/
def SameBut (o : Nat) (c c' : Array Value) : Prop := c'.size = c.size ∧ ∀ j, j ≠ o → c'[j]? = c[j]?

theorem SameBut.refl (o : Nat) (c : Array Value) : SameBut o c c := ⟨rfl, fun _ _ => rfl⟩

theorem SameBut.set {o : Nat} {c c' : Array Value} (h : SameBut o c c') (u : Value) : SameBut o c (c'.setIfInBounds o u) :=
  ⟨by rw [Array.size_setIfInBounds]; exact h.1, fun j hj => by rw [Array.getElem?_setIfInBounds_ne (fun e => hj e.symm)]; exact h.2 j hj⟩

def topI : List Nat → Int
  | [] => 0
  | x :: _ => (x : Int)

theorem cPiTopA (B g o : Nat) (cur : Array Value) (T : TypeId) (v : Value) (L : List Nat) (w : World) (h : PileI w B g o cur T v L) (hn : L.length ≤ 1000) :
    Calls Tryz.prog 104 #[.pointer (some ⟨g, o, none⟩)] w fun e w' => e = .returned (.tuple #[.int .i64 (topI L), .bool (decide (0 < L.length))]) ∧ Below w.heap.size w w' := by
  cases L with
  | nil => exact cPiTop0 B g o cur T v w h
  | cons x L =>
    rw [show decide (0 < (x :: L).length) = true from decide_eq_true (Nat.succ_pos _)]
    exact cPiTop B g o cur T v x L w h (by rw [List.length_cons] at hn; omega)

/-- What downTo knows. -/
structure DownI (w : World) (B g o : Nat) (cur : Array Value) (T : TypeId) (v0 : Value) (L : List Nat) (P : Int) (i : Nat) (wr : World) (v : Value) : Prop where
  no : ∀ x ∈ L.take i, notP P x = true
  pile : ∃ cur' v', PileI wr B g o cur' T v' (L.drop i) ∧ SameBut o cur cur' ∧ v'.ownBlock = v0.ownBlock
  own : wr.ownsRow w.heap.size 2 1 v i (intC (L.take i))
  keep : KeepB (fun k => k = g) w wr

set_option maxRecDepth 8000 in
set_option maxHeartbeats 4000000 in
theorem cPiDown (B g o : Nat) (cur : Array Value) (T : TypeId) (v0 : Value) (L : List Nat) (P : Int) (b : Nat) (w : World) (h : PileI w B g o cur T v0 L) (hn : L.length ≤ 1000) (hb : b < w.heap.size) (hbg : b ≠ g)
    (hc : w.cell? ⟨b, 0, none⟩ = some (.int .i64 P)) :
    Calls Tryz.prog 57 #[.pointer (some ⟨g, o, none⟩), .func (.func 58) #[] #[.pointer (some ⟨b, 0, none⟩)]] w fun e w' => (∃ r, e = .returned r) ∧ (∃ cur' v', PileI w' B g o cur' T v' (L.dropWhile (notP P)) ∧ SameBut o cur cur' ∧ v'.ownBlock = v0.ownBlock) ∧ KeepB (fun k => k = g) w w' := by
  obtain ⟨i0, hi, hz0, hz1, hz2⟩ := info_parts info64
  have HI := hid (And.intro hi (And.intro hz0 (And.intro hz1 hz2)))
  have HP := hid h
  have HC := hid hc
  have HBG := hid hbg
  have HBB := hid hb
  have C0 := hid (cPiTopA B g o cur T v0 L w h hn)
  clear hi hz0 hz1 hz2 h hc hbg hb
  obtain ⟨n, hnn⟩ : ∃ n, L.length = n := ⟨_, rfl⟩
  have HN := hid hnn
  rw [hnn] at hn C0
  clear hnn
  have HT0 := hid (show topI (L.drop 0) = topI L from rfl)
  generalize topI L = t0 at *
  generalize hdd : decide (0 < n) = D0 at *
  have HD0 := hid hdd
  clear hdd
  go_enter Tryz.func57, Tryz.ntmps57
  go_wp2_with fail
  refine C0.out.mono ?_
  rintro e w1 ⟨rfl, hb1⟩
  have HB1 := hid hb1
  clear hb1 C0
  go_wp2_with fail
  go_loopw [5, 6, 7] (fun v x y wr => ∃ i : Nat, i ≤ n ∧ Hid (x = .int .i64 (topI (L.drop i))) ∧ Hid (y = .bool (decide (i < n))) ∧ Hid (DownI w B g o cur T v0 L P i wr v)) (fun v _ _ _ => n - lenV v)
  case atStart => exact ⟨0, Nat.zero_le _, by rw [HT0.out]; exact rfl, by rw [HD0.out]; exact rfl, ⟨fun x hx => absurd hx (by simp), ⟨cur, v0, HP.out.below HB1.out, SameBut.refl _ _, rfl⟩, World.ownsRow_nil _ _ _ _, KeepB.of_below _ HB1.out⟩⟩
  case round =>
    obtain ⟨i, hin, HX, HY, ST⟩ := hrel
    obtain ⟨cur1, v1, hp1, hs1, ho1⟩ := ST.out.pile
    have HP1 := hid hp1
    have HS1 := hid hs1
    have HO1 := hid ho1
    clear hp1 hs1 ho1 HD0 HT0
    have hx := HX.out
    have hy := HY.out
    clear HX HY
    by_cases hlt : i < n
    case neg =>
      rw [decide_eq_false hlt] at hy
      subst hx hy
      have HE := hid (show L.dropWhile (notP P) = L.drop i from dropWhile_at ST.out.no (fun h => absurd h (by rw [HN.out]; exact hlt)))
      obtain ⟨a5, c5, rfl⟩ := own_len ST.out.own
      go_wp2_with fail
      go_ret
      exact ⟨⟨_, rfl⟩, ⟨cur1, v1, by rw [HE.out]; exact HP1.out, HS1.out, HO1.out⟩, ST.out.keep⟩
    have his : i < L.length := by rw [HN.out]; exact hlt
    have HDR := hid (List.drop_eq_getElem_cons his)
    obtain ⟨x, hxx⟩ : ∃ x, L[i] = x := ⟨_, rfl⟩
    have HXX := hid hxx
    rw [hxx] at HDR
    rw [HDR.out] at hx
    rw [decide_eq_true hlt] at hy
    have hx2 : topI (x :: L.drop (i + 1)) = (x : Int) := rfl
    rw [hx2] at hx
    subst hx hy
    clear hxx hx2
    have HPX : Hid (PileI wr B g o cur1 T v1 (x :: L.drop (i + 1))) := by rw [← HDR.out]; exact HP1.out
    have hlen : (L.drop (i + 1)).length = n - (i + 1) := by rw [List.length_drop, HN.out]
    have C1 := hid (cTreeOk1 x P b wr ((World.cell?_of_block (ST.out.keep.block b HBB.out HBG.out)).trans HC.out))
    obtain ⟨a5, c5, hv5⟩ := own_len ST.out.own
    by_cases q : (x : Int) = P
    case pos =>
      have HE := hid (show L.dropWhile (notP P) = L.drop i from dropWhile_at ST.out.no (fun h => by unfold notP; rw [HXX.out, decide_eq_true q]; rfl))
      rw [decide_eq_true q] at C1
      clear q
      subst hv5
      go_wp2_with fail
      refine C1.out.mono ?_
      rintro e w2 ⟨rfl, rfl⟩
      go_wp2_with fail
      go_ret
      exact ⟨⟨_, rfl⟩, ⟨cur1, v1, by rw [HE.out]; exact HP1.out, HS1.out, HO1.out⟩, ST.out.keep⟩
    rw [decide_eq_false q] at C1
    have HNO := hid (show ∀ y ∈ L.take (i + 1), notP P y = true from fun y hy => by
      rw [take_snocN his] at hy
      rcases List.mem_append.1 hy with h' | h'
      · exact ST.out.no y h'
      · rw [List.mem_singleton, HXX.out] at h'
        subst h'
        unfold notP
        rw [decide_eq_false q]
        rfl)
    have HTK := hid (show intC (L.take (i + 1)) = intC (L.take i) ++ [.int .i64 (x : Int)] by rw [take_snocN his, intC_app, HXX.out]; rfl)
    have CT := hid (cPiTake B g o cur1 T v1 x (L.drop (i + 1)) wr HPX.out (by rw [hlen]; omega))
    clear q HDR
    subst hv5
    go_wp2_with fail
    refine C1.out.mono ?_
    rintro e w2 ⟨rfl, rfl⟩
    go_wp2_with fail
    refine CT.out.mono ?_
    rintro e w3 ⟨rfl, ⟨v3, hp3, ho3⟩, hk3⟩
    have HP3 := hid hp3
    have HK3 := hid (ST.out.keep.trans hk3)
    have HO3 := hid (ho3.trans HO1.out)
    have hgl := HP.out.lt
    have HOW := hid ((ST.out.own.kept (row := some g) ⟨hk3.os, hk3.tape, hk3.output, hk3.size, fun k h1 h2 => hk3.block k h1 (fun e => h2 (by rw [e]))⟩ (.inr (fun e => by have := (ST.out.own.lt g e).1; omega))).alloc (.cells #[.int .i64 (x : Int)] 2))
    have HP3A := hid (HP3.out.below ((Below.refl w3.heap.size w3).alloc (Nat.le_refl _) (.cells #[.int .i64 (x : Int)] 2)))
    have hsz := HK3.out.size
    obtain ⟨hi, hz0, hz1, hz2⟩ := HI.out
    clear hp3 hk3 ho3 CT C1
    go_wp2_with (at_builtin; refine wpList_append_own_at _ rfl _ _ 84 rfl w.heap.size 2 i0 (.int .i64 0) 1 8 Tryz.underlying84 hi hz0 hz1 hz2 rfl (by decide) _ _ _ rfl HOW.out ⟨w3.heap.size, 0, none⟩ 1 1 [.int .i64 (x : Int)] rfl rfl ?c1 ?c2 ?c3 ?c4 ?c5 ?_)
    case c1 => exact one_cell64 _ _
    case c2 => exact one_one64 _
    case c3 => unfold maxLen; omega
    case c4 => omega
    case c5 => simp; omega
    intro v4 w4 hown' hgrow _ _
    have HOW4 := hid (show w4.ownsRow w.heap.size 2 1 v4 (i + 1) (intC (L.take (i + 1))) by rw [HTK.out]; exact hown')
    have HK4 := hid (show KeepB (fun k => k = g) w w4 from ⟨hgrow.os.trans HK3.out.os, hgrow.tape.trans HK3.out.tape, hgrow.output.trans HK3.out.output, Nat.le_trans (by simp; omega) hgrow.size, fun k h1 h2 => by
      rw [hgrow.block k (by simp; omega) (fun e => by have := (HOW.out.lt k e.symm).1; omega), Below.heap_alloc _ _ _ (by omega)]
      exact HK3.out.block k h1 h2⟩)
    have HP4 := hid (show PileI w4 B g o (cur1.setIfInBounds o v3) T v3 (L.drop (i + 1)) from ⟨HP3A.out.ge, (hgrow.block g HP3A.out.lt (fun e => by have := (HOW.out.lt g e.symm).1; omega)).trans HP3A.out.blk, HP3A.out.at_, HP3A.out.row.kept hgrow (by
      rcases h5 : v3.ownBlock with _ | k
      · exact .inl rfl
      · refine .inr (fun e => ?_)
        have h6 := (HOW.out.lt k e.symm).1
        rw [HO3.out] at h5
        have := (HP.out.row.lt k h5).2
        omega), HP3A.out.ne⟩)
    have C5 := hid (cPiTopA B g o _ T v3 (L.drop (i + 1)) w4 HP4.out (by rw [hlen]; omega))
    have hl0 : decide (0 < (L.drop (i + 1)).length) = decide (i + 1 < n) := by rw [hlen]; by_cases h : i + 1 < n <;> simp <;> omega
    rw [hl0] at C5
    obtain ⟨a4, c4, hv4⟩ := own_len hown'
    generalize htt : topI (L.drop (i + 1)) = tt at C5
    generalize hdd : decide (i + 1 < n) = dd at C5
    have HTT := hid htt
    have HDD := hid hdd
    subst hv4
    clear hown' hgrow htt hdd hl0
    go_wp2_with fail
    refine C5.out.mono ?_
    rintro e w5 ⟨rfl, hb5⟩
    have HB5 := hid hb5
    clear hb5
    go_wp2_with fail
    go_roundw
    case rel => exact ⟨i + 1, by omega, by rw [HTT.out]; exact rfl, by rw [HDD.out]; exact rfl, ⟨HNO.out, ⟨_, v3, HP4.out.below HB5.out, HS1.out.set _, HO3.out⟩, ownsRow_below HOW4.out HB5.out, HK4.out.below_of HB5.out⟩⟩
    case measure => simp [lenV]; omega

end Go.Proofs.YteninofjeidljaaGreat

namespace Go.Proofs.YteninofjeidljaaGreat

set_option linter.unusedVariables false

def elB (ts : List Tk) (j : Nat) : Bool := match ts[j]? with | some t => !decide (t.name.size = 0) | none => false

theorem elB_iff {ts : List Tk} {j : Nat} : elB ts j = true ↔ elN ts j := by
  unfold elB elN
  by_cases h : j < ts.length
  · rw [List.getElem?_eq_getElem h]
    simp [h]
  · rw [List.getElem?_eq_none (by omega)]
    simp [h]

theorem elB_at {ts : List Tk} {j : Nat} (h : j < ts.length) : elB ts j = !decide (ts[j].name.size = 0) := by
  unfold elB
  rw [List.getElem?_eq_getElem h]

/-- What lies on the pile ahead of the i-th node, the top first. -/
def pileF (ts : List Tk) : Nat → List Nat
  | 0 => []
  | i + 1 => (if elB ts i = true then [i] else []) ++ (pileF ts i).dropWhile (notP (parI ts i))

theorem dw_filter {α : Type} {el p : α → Bool} (h : ∀ x, p x = false → el x = true) : ∀ l : List α, (l.filter el).dropWhile p = (l.dropWhile p).filter el
  | [] => rfl
  | x :: l => by
    cases e : el x
    · have hp : p x = true := by
        cases q : p x
        · rw [h x q] at e; cases e
        · rfl
      rw [List.filter_cons_of_neg (by rw [e]; decide), List.dropWhile_cons_of_pos hp]
      exact dw_filter h l
    · rw [List.filter_cons_of_pos e]
      cases q : p x
      · rw [List.dropWhile_cons_of_neg (by rw [q]; decide), List.dropWhile_cons_of_neg (by rw [q]; decide), List.filter_cons_of_pos e]
      · rw [List.dropWhile_cons_of_pos q, List.dropWhile_cons_of_pos q]
        exact dw_filter h l

theorem chain_tail (ts : List Tk) (i : Nat) : (chainF ts (i + 1)).tail = (chainF ts i).dropWhile (notP (parI ts i)) := rfl

theorem chain_tail_el {ts : List Tk} : ∀ i, (∀ j, j < i + 1 → UpOk ts j) → ∀ x ∈ (chainF ts (i + 1)).tail, elB ts x = true
  | 0, _ => fun x hx => by
    rw [chain_tail] at hx
    exact absurd hx (by simp [chainF])
  | i + 1, h => fun x hx => by
    have ih := chain_tail_el i (fun j hj => h j (by omega))
    rw [chain_tail] at hx
    have e : chainF ts (i + 1) = i :: (chainF ts (i + 1)).tail := rfl
    rw [e] at hx
    cases q : notP (parI ts (i + 1)) i
    · rw [List.dropWhile_cons_of_neg (by rw [q]; decide)] at hx
      rcases List.mem_cons.1 hx with rfl | hx
      · rcases h (x + 1) (by omega) with h0 | ⟨p, _, hp, he⟩
        · omega
        · unfold notP at q
          simp only [Bool.not_eq_false', decide_eq_true_eq] at q
          have : x = p := by omega
          subst this
          exact elB_iff.2 he
      · exact ih x hx
    · rw [List.dropWhile_cons_of_pos q] at hx
      exact ih x ((List.dropWhile_sublist _).mem hx)

theorem pile_is {ts : List Tk} : ∀ i, (∀ j, j < i → UpOk ts j) → pileF ts i = (chainF ts i).filter (elB ts)
  | 0, _ => rfl
  | i + 1, h => by
    have ih := pile_is i (fun j hj => h j (by omega))
    have e : chainF ts (i + 1) = i :: (chainF ts i).dropWhile (notP (parI ts i)) := rfl
    have key : ((chainF ts i).filter (elB ts)).dropWhile (notP (parI ts i)) = ((chainF ts i).dropWhile (notP (parI ts i))).filter (elB ts) := by
      rcases h i (by omega) with h0 | ⟨p, _, hp, he⟩
      · subst h0
        rfl
      · refine dw_filter (fun x hx => ?_) _
        unfold notP at hx
        simp only [Bool.not_eq_false', decide_eq_true_eq] at hx
        have : x = p := by omega
        subst this
        exact elB_iff.2 he
    rw [pileF, ih, key, e]
    cases q : elB ts i
    · rw [List.filter_cons_of_neg (by rw [q]; decide)]
      simp
    · rw [List.filter_cons_of_pos q]
      simp

/-- Where the node may stand there: what is left is what is around it. -/
theorem pile_ok {ts : List Tk} {i : Nat} (h : ∀ j, j < i → UpOk ts j) (hu : UpOk ts i) : (chainF ts (i + 1)).length = ((pileF ts i).dropWhile (notP (parI ts i))).length + 1 := by
  have h1 := pile_is (i + 1) (fun j hj => by rcases Nat.lt_or_eq_of_le (Nat.le_of_lt_succ hj) with h' | rfl; exact h j h'; exact hu)
  have h2 := chain_tail_el i (fun j hj => by rcases Nat.lt_or_eq_of_le (Nat.le_of_lt_succ hj) with h' | rfl; exact h j h'; exact hu)
  have e : chainF ts (i + 1) = i :: (chainF ts (i + 1)).tail := rfl
  rw [pileF, e] at h1
  rw [e, List.length_cons]
  congr 1
  have h3 : (chainF ts (i + 1)).tail.filter (elB ts) = (chainF ts (i + 1)).tail := List.filter_eq_self.2 h2
  cases q : elB ts i
  · rw [q, List.filter_cons_of_neg (by rw [q]; decide), h3] at h1
    have h1 : (pileF ts i).dropWhile (notP (parI ts i)) = (chainF ts (i + 1)).tail := h1
    rw [h1]
  · rw [q, List.filter_cons_of_pos q, h3] at h1
    have h1 : i :: (pileF ts i).dropWhile (notP (parI ts i)) = i :: (chainF ts (i + 1)).tail := h1
    injection h1 with _ h1
    rw [h1]

theorem dw_nil {α : Type} {p : α → Bool} : ∀ {l : List α}, l.dropWhile p = [] → ∀ x ∈ l, p x = true
  | [], _, x, hx => absurd hx List.not_mem_nil
  | y :: l, h, x, hx => by
    cases q : p y
    · rw [List.dropWhile_cons_of_neg (by rw [q]; decide)] at h
      cases h
    · rw [List.dropWhile_cons_of_pos q] at h
      rcases List.mem_cons.1 hx with rfl | hx
      · exact q
      · exact dw_nil h x hx

/-- It may stand there just if something is left. -/
theorem pile_up {ts : List Tk} {i : Nat} (h : ∀ j, j < i → UpOk ts j) (hi : 0 < i) : UpOk ts i ↔ 0 < ((pileF ts i).dropWhile (notP (parI ts i))).length := by
  rw [pile_is i h]
  constructor
  · rintro (h0 | ⟨p, hp, e, he⟩)
    · omega
    · rw [List.length_pos_iff]
      intro e0
      have := dw_nil e0 p (List.mem_filter.2 ⟨hp, elB_iff.2 he⟩)
      unfold notP at this
      simp only [Bool.not_eq_true', decide_eq_false_iff_not] at this
      exact this e
  · intro hl
    rw [List.length_pos_iff] at hl
    have h1 := List.head_dropWhile_not (notP (parI ts i)) hl
    have h2 := (List.dropWhile_sublist (notP (parI ts i))).mem (List.head_mem hl)
    obtain ⟨h3, h4⟩ := List.mem_filter.1 h2
    refine .inr ⟨_, h3, ?_, elB_iff.1 h4⟩
    generalize (List.dropWhile (notP (parI ts i)) (List.filter (elB ts) (chainF ts i))).head hl = z at h1 ⊢
    unfold notP at h1
    simpa using h1

theorem dw_len {α : Type} (p : α → Bool) (l : List α) : (l.dropWhile p).length ≤ l.length := (List.dropWhile_sublist p).length_le

theorem pile_len (ts : List Tk) : ∀ i, (pileF ts i).length ≤ i
  | 0 => Nat.le_refl _
  | i + 1 => by
    have := pile_len ts i
    have h2 := dw_len (notP (parI ts i)) (pileF ts i)
    rw [pileF, List.length_append]
    split <;> simp <;> omega

/-- The token that a node begins with. -/
def tokOfN (t : Tk) : Tk := if t.name.size = 0 then ⟨3, ⟨#[]⟩, t.attrs, t.text⟩ else ⟨1, t.name, t.attrs, t.text⟩

theorem tokOfN_B (t : Tk) : tokB (tokOfN t) = nodeB t := by
  unfold tokOfN nodeB
  split
  · unfold tokB
    rw [if_neg (show ¬ (3 : Int) = 1 by decide), if_neg (show ¬ (3 : Int) = 2 by decide), if_pos rfl, show decide ((⟨#[]⟩ : ByteArray).size = 0) = true from rfl, Bool.true_and]
  · unfold tokB
    rw [if_pos rfl]

theorem tokOfN_attrs (t : Tk) : (tokOfN t).attrs = t.attrs := by unfold tokOfN; split <;> rfl

theorem tokOfN_sz {n : Nat} {t : Tk} (h : TkSz n t) : TkSz n (tokOfN t) := by
  obtain ⟨h1, h2, h3, h4⟩ := h
  unfold tokOfN
  split
  · exact ⟨Nat.zero_le _, h2, h3, h4⟩
  · exact ⟨h1, h2, h3, h4⟩

noncomputable def twinB (ts : List Tk) (i : Nat) : Bool := open Classical in decide (TwinAt ts i)

theorem twinB_t {ts : List Tk} {i : Nat} (h : TwinAt ts i) : twinB ts i = true := by unfold twinB; simp [h]

theorem twinB_f {ts : List Tk} {i : Nat} (h : ¬ TwinAt ts i) : twinB ts i = false := by unfold twinB; simp [h]

end Go.Proofs.YteninofjeidljaaGreat
