/- The reader of a letter in the program: contract of opening. The reader of a letter in the program: what all knows, and what it answers. The reader of a letter in the program: all from label 0 on. The reader of a letter in the program: opening at the end of a letter. -/
import Derived.Test.YteninofjeidljaaGreatM15
import Derived.Test.YteninofjeidljaaGreatM14
import Derived.Test.YteninofjeidljaaGreatM13
namespace Go.Proofs.YteninofjeidljaaGreat

open Go.RowKit

set_option linter.unusedVariables false

set_option linter.unusedSimpArgs false

set_option maxRecDepth 8000 in
set_option maxHeartbeats 16000000 in
theorem cOpening (B g : Nat) (s : ByteArray) (p : Nat) (tx : ByteArray) (v : Value) (es : List Tn.E) (w : World) (h : RdT w B g s (p + 1) p tx v es) (hp : p < s.size) (hs : s.size ≤ 4000) (hn : es.length ≤ 900) (h0 : ∀ i (hi : i < s.size), ¬ s[i].toNat = 0) :
    Calls Tryz.prog 144 #[.pointer (some ⟨g, 0, none⟩)] w (OpPost B g s p tx es w) := by
  have HT := hid h
  have hgl := lt_of_heap h.rdr.heap
  clear h
  go_enter Tryz.func144, Tryz.ntmps144
  go_wp2_with fail
  refine wp_scope_four (OJ0 g s p tx v w) (OJ1 g s p tx v w) (OJ2 g s p tx v w) (OJ3 g s p tx v w) (OMU s g) rfl rfl rfl rfl ?_ (opWalk0 B g s p tx v es w HT hgl hp hs hn h0 _ rfl _ rfl) (opWalk1 B g s p tx v es w HT hgl hp hs hn h0 _ rfl _ rfl) (opWalk2 B g s p tx v es w HT hgl hp hs hn h0 _ rfl _ rfl) (opWalk3 B g s p tx v es w HT hgl hp hs hn h0 _ rfl _ rfl)
  have HB2 := hid (((Below.refl w.heap.size w).alloc (Nat.le_refl _) (.cells #[.int .i64 1, .string ⟨#[]⟩, .slice none 0 0, .string ⟨#[]⟩] 49)).alloc (by simp) (.cells #[.string ⟨#[]⟩, .string ⟨#[]⟩] 114))
  have HX1 := hid (blk_alloc (heap_alloc_new w (.cells #[.int .i64 1, .string ⟨#[]⟩, .slice none 0 0, .string ⟨#[]⟩] 49)) (.cells #[.string ⟨#[]⟩, .string ⟨#[]⟩] 114))
  have HX2 := hid (heap_twoR w (.cells #[.int .i64 1, .string ⟨#[]⟩, .slice none 0 0, .string ⟨#[]⟩] 49) (.cells #[.string ⟨#[]⟩, .string ⟨#[]⟩] 114))
  go_wp2_with fail
  go_step3
  obtain ⟨q, hqp⟩ : ∃ q, q = p + 1 := ⟨_, rfl⟩
  obtain ⟨w1, hw1⟩ : ∃ w1, (w.alloc (.cells #[.int .i64 1, .string ⟨#[]⟩, .slice none 0 0, .string ⟨#[]⟩] 49)).alloc (.cells #[.string ⟨#[]⟩, .string ⟨#[]⟩] 114) = w1 := ⟨_, rfl⟩
  rw [hw1] at HB2 HX1 HX2
  simp only [hw1]
  have ST := hid (show NmSt g s p tx v w q w1 from ⟨by rw [hqp]; exact HT.out.rdr.below HB2.out, KeepB.of_below _ HB2.out, by omega, by omega, fun i hi h1 h2 => by omega, HX1.out, HX2.out⟩)
  clear HB2 HX1 HX2 hw1 hqp
  have CN := hid (cNext g s q p tx v w1 ST.out.rdr (by have := ST.out.le; omega) (by omega))
  go_wp2_with fail
  refine CN.out.mono ?_
  rintro e w2 ⟨rfl, hr2, hk2⟩
  have HR2 := hid hr2
  have HK2 := hid hk2
  clear hr2 hk2 CN
  by_cases hq : q < s.size
  · have hz := h0 q hq
    have HSG := hid (show sgnAt s q = s[q].toNat by unfold sgnAt; rw [dif_pos hq])
    have hne0 : (((s[q].toNat : Nat) : Int) == 0) = false := by simp; omega
    rw [HSG.out]
    by_cases hT : nameT s[q].toNat = true
    · have hd : (((s[q].toNat : Nat) : Int) == 32) = true ∨ ((((s[q].toNat : Nat) : Int) == 32) = false ∧ (((s[q].toNat : Nat) : Int) == 47) = true) ∨ ((((s[q].toNat : Nat) : Int) == 32) = false ∧ (((s[q].toNat : Nat) : Int) == 47) = false ∧ (((s[q].toNat : Nat) : Int) == 62) = true) := by
        unfold nameT at hT
        simp at hT ⊢
        omega
      have HOP := hid (fun w3 (hb : Below w2.heap.size w2 w3) => And.intro (ST.out.part hgl hq hT HR2.out HK2.out hb) HSG.out)
      have BX2 := hid (fun w3 (hb : Below w2.heap.size w2 w3) => (((ST.out.box.keep HK2.out hgl).below hb).cellsT))
      have HMUA := hid (fun w4 (hr : Rdr w4 g s (q + 1) p tx v) => show 5 * (s.size + 5 - rdAt w4 g) + (3 - 1) < 5 * (s.size + 5 - rdAt w1 g) + (3 - 0) by rw [rdAt_is hr, rdAt_is ST.out.rdr]; omega)
      have CP := hid (cPiece g s (q + 1) p tx v w2 HR2.out (by have := ST.out.ge; omega) (by omega) (by omega))
      have HEX := hid (show pieceS s p (q + 1) = s.extract p q from rfl)
      rw [HEX.out] at CP
      generalize s[q].toNat = ch at *
      clear ST HSG HEX hT
      rcases hd with h32 | ⟨h32, h47⟩ | ⟨h32, h47, h62⟩
      all_goals (
        go_wp2_with fail
        refine CP.out.mono ?_
        rintro e w3 ⟨rfl, hb3⟩
        have HO := hid (HOP.out w3 hb3)
        obtain ⟨t0, t1, t2, t3, tf⟩ := BX2.out w3 hb3
        have tf1 := tf 1
        have HMU := hid (HMUA.out _ HO.out.1.rdr)
        clear hb3 CP HOP BX2 HMUA tf
        go_wp2_with fail
        go_step3
        exact ⟨q, ch, s.size + 1, [], none, 0, p, ⟨#[]⟩, ⟨#[]⟩, _, _, _, _, _, _, _, _, _, _, _, _, _, _, _, _, _, _, _, _, _, _, _, _, _, _, _, _, _, _, _, _, _, _, _, _, _, _, _, _, _, _, _, _, _, _, _, _, _, _, _, _, _, _, _, _, _, _, _, _, _, _, _, _, _, _, _, _, rfl, HO.out⟩)
    · have hd : nameT s[q].toNat = false := by simpa using hT
      have h32 : (((s[q].toNat : Nat) : Int) == 32) = false := by (unfold nameT at hd; simp at hd ⊢; omega)
      have h47 : (((s[q].toNat : Nat) : Int) == 47) = false := by (unfold nameT at hd; simp at hd ⊢; omega)
      have h62 : (((s[q].toNat : Nat) : Int) == 62) = false := by (unfold nameT at hd; simp at hd ⊢; omega)
      have STN := hid (ST.out.more hgl hq hd HR2.out HK2.out)
      have HMU := hid (show 5 * (s.size + 5 - rdAt w2 g) + (3 - 0) < 5 * (s.size + 5 - rdAt w1 g) + (3 - 0) by rw [rdAt_is HR2.out, rdAt_is ST.out.rdr]; omega)
      clear hT hd
      generalize s[q].toNat = ch at *
      clear ST
      go_wp2_with fail
      go_step3
      exact ⟨q + 1, _, _, _, _, _, _, _, _, _, _, _, _, _, _, _, _, _, _, _, _, _, _, _, _, _, _, _, _, _, _, _, _, _, _, _, _, _, _, _, _, _, _, _, _, _, _, _, _, _, _, _, _, _, _, _, _, _, _, _, _, _, _, _, _, _, _, _, _, _, rfl, STN.out⟩
  · have HE := hid (ST.out.noName hq)
    have HBF := hid ((ST.out.kp.trans HK2.out).below (Nat.le_of_lt hgl) (fun k e => by rw [e]; exact Nat.le_refl _))
    have HSG := hid (show sgnAt s q = 0 by unfold sgnAt; rw [dif_neg hq])
    rw [HSG.out]
    clear ST
    go_wp2_with fail
    try simp only [Exit.jump]
    go_ret
    exact OpPost.noName HE.out HBF.out rfl

end Go.Proofs.YteninofjeidljaaGreat

namespace Go.Proofs.YteninofjeidljaaGreat

open Go.RowKit

set_option linter.unusedVariables false

set_option linter.unusedSimpArgs false

/-- No remark begins. -/
def NoDD (s : ByteArray) : Prop := ∀ q, sgnAt s q = 60 → sgnAt s (q + 1) = 33 → ¬ (sgnAt s (q + 2) = 45 ∧ sgnAt s (q + 3) = 45)

/-- What all answers. -/
def AlPost (B g : Nat) (s : ByteArray) (V : Option (List Tk)) (w : World) (x : Ending) (w' : World) : Prop :=
  ∃ b, x = .returned (.bool b) ∧ Below g w w' ∧ (b = false → ansF V = none) ∧ (b = true → ∃ p m tx v es, RdT w' B g s p m tx v es ∧ ansF V = some (es.map (·.t)))

theorem AlPost.no {B g : Nat} {s : ByteArray} {V : Option (List Tk)} {w w' : World} (hb : Below g w w') (h : ansF V = none) : AlPost B g s V w (.returned (.bool false)) w' := ⟨false, rfl, hb, fun _ => h, fun h => by cases h⟩

/-- Between tags. -/
structure BtSt (B g : Nat) (s : ByteArray) (V : Option (List Tk)) (w : World) (p m : Nat) (tx : ByteArray) (v : Value) (es : List Tn.E) (wr : World) : Prop where
  rdt : RdT wr B g s p m tx v es
  lx : LxSt s V p tx (es.map (·.t))
  bel : Below g w wr

/-- Within a text. -/
structure InSt (B g : Nat) (s : ByteArray) (V : Option (List Tk)) (w : World) (m q : Nat) (tx : ByteArray) (v : Value) (es : List Tn.E) (wr : World) : Prop where
  rdt : RdT wr B g s q m tx v es
  lx : LxSt s V m tx (es.map (·.t))
  ge : m ≤ q
  le : q ≤ s.size
  no : ∀ i (hi : i < s.size), m ≤ i → i < q → txtT s[i].toNat = false
  bel : Below g w wr

/-- At a tag. -/
structure TgSt (B g : Nat) (s : ByteArray) (V : Option (List Tk)) (w : World) (m q : Nat) (tx : ByteArray) (v : Value) (es : List Tn.E) (wr : World) : Prop where
  rdt : RdT wr B g s (q + 1) m tx v es
  lx : LxSt s V m tx (es.map (·.t))
  st : StopsAt txtT s m q
  sg : sgnAt s q = 60
  bel : Below g w wr

/-- Behind the second sign of a tag. -/
structure SnSt (c : Nat) (B g : Nat) (s : ByteArray) (V : Option (List Tk)) (w : World) (q m : Nat) (tx : ByteArray) (v : Value) (es : List Tn.E) (wr : World) : Prop where
  rdt : RdT wr B g s (q + 2) m tx v es
  lx : LxSt s V q tx (es.map (·.t))
  sg : sgnAt s q = 60
  sc : sgnAt s (q + 1) = c
  bel : Below g w wr

/-- What holds at label 0 of all. -/
abbrev AJ0 (B g : Nat) (s : ByteArray) (V : Option (List Tk)) (w : World) : Act → World → Prop := fun a' w' => ∃ (p m : Nat) (tx : ByteArray) (v : Value) (es : List Tn.E) (u3 u4 u5 u6 u7 u8 u9 u10 u11 u12 u13 u14 u15 u16 u17 u18 u19 u20 u21 u22 u23 u24 u25 u26 u27 u28 u29 u30 u31 u32 u33 u34 u35 u36 u37 u38 u39 u40 u41 u42 u43 : Value), a' = { tmps := #[.pointer (some ⟨g, 0, none⟩), undef, .bool false, u3, u4, u5, u6, u7, u8, u9, u10, u11, u12, u13, u14, u15, u16, u17, u18, u19, u20, u21, u22, u23, u24, u25, u26, u27, u28, u29, u30, u31, u32, u33, u34, u35, u36, u37, u38, u39, u40, u41, u42, u43], defers := [] } ∧ Hid (BtSt B g s V w p m tx v es w')

/-- What holds at label 1 of all. -/
abbrev AJ1 (B g : Nat) (s : ByteArray) (V : Option (List Tk)) (w : World) : Act → World → Prop := fun a' w' => ∃ (m q : Nat) (tx : ByteArray) (v : Value) (es : List Tn.E) (u3 u4 u5 u6 u7 u8 u9 u10 u11 u12 u13 u14 u15 u16 u17 u18 u19 u20 u21 u22 u23 u24 u25 u26 u27 u28 u29 u30 u31 u32 u33 u34 u35 u36 u37 u38 u39 u40 u41 u42 u43 : Value), a' = { tmps := #[.pointer (some ⟨g, 0, none⟩), undef, .bool false, u3, u4, u5, u6, u7, u8, u9, u10, u11, u12, u13, u14, u15, u16, u17, u18, u19, u20, u21, u22, u23, u24, u25, u26, u27, u28, u29, u30, u31, u32, u33, u34, u35, u36, u37, u38, u39, u40, u41, u42, u43], defers := [] } ∧ Hid (TgSt B g s V w m q tx v es w')

/-- What holds at label 2 of all. -/
abbrev AJ2 (B g : Nat) (s : ByteArray) (V : Option (List Tk)) (w : World) : Act → World → Prop := fun a' w' => ∃ (m q : Nat) (tx : ByteArray) (v : Value) (es : List Tn.E) (u3 u4 u5 u6 u7 u8 u9 u10 u11 u12 u13 u14 u15 u16 u17 u18 u19 u20 u21 u22 u23 u24 u25 u26 u27 u28 u29 u30 u31 u32 u33 u34 u35 u36 u37 u38 u39 u40 u41 u42 u43 : Value), a' = { tmps := #[.pointer (some ⟨g, 0, none⟩), undef, .bool false, u3, u4, u5, u6, u7, u8, u9, u10, u11, u12, u13, u14, u15, u16, u17, u18, u19, u20, u21, u22, u23, u24, u25, u26, u27, u28, u29, u30, u31, u32, u33, u34, u35, u36, u37, u38, u39, u40, u41, u42, u43], defers := [] } ∧ Hid (InSt B g s V w m q tx v es w')

/-- What holds at label 3 of all. -/
abbrev AJ3 (B g : Nat) (s : ByteArray) (V : Option (List Tk)) (w : World) : Act → World → Prop := fun a' w' => ∃ (q m : Nat) (tx : ByteArray) (v : Value) (es : List Tn.E) (u3 u4 u5 u6 u7 u8 u9 u10 u11 u12 u13 u14 u15 u16 u17 u18 u19 u20 u21 u22 u23 u24 u25 u26 u27 u28 u29 u30 u31 u32 u33 u34 u35 u36 u37 u38 u39 u40 u41 u42 u43 : Value), a' = { tmps := #[.pointer (some ⟨g, 0, none⟩), undef, .bool false, u3, u4, u5, u6, u7, u8, u9, u10, u11, u12, u13, u14, u15, u16, u17, u18, u19, u20, u21, u22, u23, u24, u25, u26, u27, u28, u29, u30, u31, u32, u33, u34, u35, u36, u37, u38, u39, u40, u41, u42, u43], defers := [] } ∧ Hid (SnSt 33 B g s V w q m tx v es w')

/-- What holds at label 4 of all. -/
abbrev AJ4 (B g : Nat) (s : ByteArray) (V : Option (List Tk)) (w : World) : Act → World → Prop := fun a' w' => ∃ (q m : Nat) (tx : ByteArray) (v : Value) (es : List Tn.E) (u3 u4 u5 u6 u7 u8 u9 u10 u11 u12 u13 u14 u15 u16 u17 u18 u19 u20 u21 u22 u23 u24 u25 u26 u27 u28 u29 u30 u31 u32 u33 u34 u35 u36 u37 u38 u39 u40 u41 u42 u43 : Value), a' = { tmps := #[.pointer (some ⟨g, 0, none⟩), undef, .bool false, u3, u4, u5, u6, u7, u8, u9, u10, u11, u12, u13, u14, u15, u16, u17, u18, u19, u20, u21, u22, u23, u24, u25, u26, u27, u28, u29, u30, u31, u32, u33, u34, u35, u36, u37, u38, u39, u40, u41, u42, u43], defers := [] } ∧ Hid (SnSt 47 B g s V w q m tx v es w')

/-- What holds at each. -/
abbrev AJ (B g : Nat) (s : ByteArray) (V : Option (List Tk)) (w : World) : Nat → Act → World → Prop := J5 (AJ0 B g s V w) (AJ1 B g s V w) (AJ2 B g s V w) (AJ3 B g s V w) (AJ4 B g s V w)

/-- What every pass lowers. -/
abbrev AMU (s : ByteArray) (g : Nat) : Nat → Act → World → Nat := fun _ _ w' => s.size + 5 - rdAt w' g

theorem InSt.more {B g : Nat} {s : ByteArray} {V : Option (List Tk)} {w wr w' : World} {m q : Nat} {tx : ByteArray} {v : Value} {es : List Tn.E} (h : InSt B g s V w m q tx v es wr) (hq : q < s.size) (h2 : txtT s[q].toNat = false) (hr : RdT w' B g s (q + 1) m tx v es) (hb : Below g w w') : InSt B g s V w m (q + 1) tx v es w' :=
  ⟨hr, h.lx, Nat.le_succ_of_le h.ge, hq, fun i hi h1 h3 => by
    rcases Nat.lt_or_eq_of_le (Nat.le_of_lt_succ h3) with h' | h'
    · exact h.no i hi h1 h'
    · subst h'; exact h2, hb⟩

theorem InSt.tag {B g : Nat} {s : ByteArray} {V : Option (List Tk)} {w wr w' : World} {m q : Nat} {tx : ByteArray} {v : Value} {es : List Tn.E} (h : InSt B g s V w m q tx v es wr) (hq : q < s.size) (h2 : s[q].toNat = 60) (hr : RdT w' B g s (q + 1) m tx v es) (hb : Below g w w') : TgSt B g s V w m q tx v es w' :=
  ⟨hr, h.lx, txt_stop h.ge hq (by rw [h2]; rfl) h.no, by unfold sgnAt; rw [dif_pos hq]; exact h2, hb⟩

theorem InSt.greater {B g : Nat} {s : ByteArray} {V : Option (List Tk)} {w wr : World} {m q : Nat} {tx : ByteArray} {v : Value} {es : List Tn.E} (h : InSt B g s V w m q tx v es wr) (hq : q < s.size) (h2 : s[q].toNat = 62) : ansF V = none := by
  rw [h.lx.greater (txt_stop h.ge hq (by rw [h2]; rfl) h.no) (by unfold sgnAt; rw [dif_pos hq]; exact h2)]
  rfl

/-- What the text's end tells. -/
theorem flush_ans {B g : Nat} {s : ByteArray} {V : Option (List Tk)} {tx : ByteArray} {es : List Tn.E} {ts : List Tk} (hts : es.map (·.t) = ts) (hV : V = some (flushL tx.data.toList ts)) (h1 : ∀ t ∈ ts, tokB t = true) (h2 : ts.length ≤ 120) : (flushB tx es = false → ansF V = none) ∧ (flushB tx es = true → ansF V = some ((flushE tx es).map (·.t))) := by
  subst hts
  have hfe := flush_is tx es
  rw [hV, ← hfe]
  refine ⟨fun h => ans_no (fun q => ?_), fun h => ?_⟩
  · rcases flush_bad h with ⟨t, ht, hb⟩ | h'
    · rw [q.1 t ht] at hb
      cases hb
    · have := q.2
      omega
  · obtain ⟨k1, k2⟩ := flush_good h h1 h2
    exact ans_some k1 k2

end Go.Proofs.YteninofjeidljaaGreat

namespace Go.Proofs.YteninofjeidljaaGreat

open Go.RowKit

set_option linter.unusedVariables false

set_option linter.unusedSimpArgs false

set_option maxRecDepth 8000 in
set_option maxHeartbeats 16000000 in
theorem alWalk0 (B g : Nat) (s : ByteArray) (V : Option (List Tk)) (w : World) (hgw : g < w.heap.size) (hs : s.size ≤ 4000) (h0 : ∀ i (hi : i < s.size), ¬ s[i].toNat = 0) (hdd : NoDD s) :
    ∀ c, Tryz.f102.body.bind scopeIn = some c → ∀ r, findLabel c 0 = some r → ∀ a w1, AJ0 B g s V w a w1 → r.wp Tryz.prog (jumpsTo (fun l' a' w' => AJ B g s V w l' a' w' ∧ AMU s g l' a' w' < AMU s g 0 a w1) (bodyPost Tryz.prog Tryz.f102 (AlPost B g s V w))) a w1 := by
  refine at_scope (P := fun c => ∀ r, findLabel c 0 = some r → _) rfl ?_
  refine at_scope rfl ?_
  rintro a' w0 ⟨p, m0, tx, v, es, u3, u4, u5, u6, u7, u8, u9, u10, u11, u12, u13, u14, u15, u16, u17, u18, u19, u20, u21, u22, u23, u24, u25, u26, u27, u28, u29, u30, u31, u32, u33, u34, u35, u36, u37, u38, u39, u40, u41, u42, u43, rfl, S0⟩
  have CM := hid (cMark g s p m0 tx v w0 S0.out.rdt.rdr)
  have hp := S0.out.lx.le
  go_wp2_with fail
  refine CM.out.mono ?_
  rintro e w1 ⟨rfl, hr1, hk1⟩
  obtain ⟨m, hm⟩ : ∃ m, m = p := ⟨_, rfl⟩
  obtain ⟨q, hqp⟩ : ∃ q, q = p := ⟨_, rfl⟩
  have ST := hid (show InSt B g s V w m q tx v es w1 from ⟨by rw [hm, hqp]; exact S0.out.rdt.next hr1 hk1, by rw [hm]; exact S0.out.lx, by omega, by omega, fun i hi h1 h2 => by omega, S0.out.bel.trans (hk1.below (Nat.le_of_lt (lt_of_heap S0.out.rdt.rdr.heap)) (fun k e => by rw [e]; exact Nat.le_refl _))⟩)
  have HM := hid (show rdAt w0 g = q by rw [hqp, rdAt_is S0.out.rdt.rdr])
  clear hr1 hk1 CM hm hqp S0 hp
  go_wp2_with fail
  try go_step3
  have hlv := ST.out.le
  have CN := hid (cNext g s q m tx v w1 ST.out.rdt.rdr (by omega) (by omega))
  go_wp2_with fail
  refine CN.out.mono ?_
  rintro e w2 ⟨rfl, hr2, hk2⟩
  have HT2 := hid (ST.out.rdt.next hr2 hk2)
  have HB2 := hid (ST.out.bel.trans (hk2.below (Nat.le_of_lt (lt_of_heap ST.out.rdt.rdr.heap)) (fun k e => by rw [e]; exact Nat.le_refl _)))
  clear hr2 hk2 CN
  by_cases hq : q < s.size
  · have hz := h0 q hq
    have HSG := hid (show sgnAt s q = s[q].toNat by unfold sgnAt; rw [dif_pos hq])
    rw [HSG.out]
    have n0 : (((s[q].toNat : Nat) : Int) == 0) = false := by simp; omega
    have HMU := hid (show s.size + 5 - rdAt w2 g < s.size + 5 - rdAt w0 g by rw [rdAt_is HT2.out.rdr, HM.out]; have := ST.out.le; omega)
    by_cases h60 : s[q].toNat = 60
    · have n60 : (((s[q].toNat : Nat) : Int) == 60) = true := by simp; omega
      have HJ := hid (ST.out.tag hq h60 HT2.out HB2.out)
      generalize s[q].toNat = ch at *
      clear ST HSG
      go_wp2_with fail
      go_step3
      exact ⟨⟨m, q, tx, v, es, _, _, _, _, _, _, _, _, _, _, _, _, _, _, _, _, _, _, _, _, _, _, _, _, _, _, _, _, _, _, _, _, _, _, _, _, _, _, _, _, _, rfl, HJ.out⟩, HMU.out⟩
    · have n60 : (((s[q].toNat : Nat) : Int) == 60) = false := by simp; omega
      by_cases h62 : s[q].toNat = 62
      · have n62 : (((s[q].toNat : Nat) : Int) == 62) = true := by simp; omega
        have HE := hid (ST.out.greater hq h62)
        generalize s[q].toNat = ch at *
        clear ST HSG
        go_wp2_with fail
        try simp only [Exit.jump]
        go_ret
        exact AlPost.no HB2.out HE.out
      · have n62 : (((s[q].toNat : Nat) : Int) == 62) = false := by simp; omega
        have HJ := hid (ST.out.more hq (by unfold txtT; simp; omega) HT2.out HB2.out)
        generalize s[q].toNat = ch at *
        clear ST HSG
        go_wp2_with fail
        go_step3
        exact ⟨⟨m, q + 1, tx, v, es, _, _, _, _, _, _, _, _, _, _, _, _, _, _, _, _, _, _, _, _, _, _, _, _, _, _, _, _, _, _, _, _, _, _, _, _, _, _, _, _, _, rfl, HJ.out⟩, HMU.out⟩
  · have hqe : q = s.size := by omega
    have HSG := hid (show sgnAt s q = 0 by unfold sgnAt; rw [dif_neg hq])
    rw [HSG.out]
    have HEX := hid (show pieceS s m (q + 1) = s.extract m q from rfl)
    have hxz : (s.extract m q).size ≤ 4000 := by rw [ByteArray.size_extract]; omega
    have huz := unS_size (s.extract m q)
    have hsm := ST.out.lx.sm
    have hml := ST.out.lx.le
    have CK := hid (cKeepText B g s (q + 1) m tx v es w2 HT2.out (by have := ST.out.ge; omega) (by omega) hs (by omega) (by rw [HEX.out]; omega))
    rw [HEX.out] at CK
    have HNO := hid (show ∀ i (hi : i < s.size), m ≤ i → txtT s[i].toNat = false from fun i hi h1 => ST.out.no i hi h1 (by omega))
    cases hu : unescL (s.extract m q).data.toList with
    | none =>
      have HE := hid (show ansF V = none by rw [ST.out.lx.badEnd HNO.out (by rw [← hqe]; exact hu)]; rfl)
      rw [hu] at CK
      replace CK := hid (show Calls Tryz.prog 142 #[.pointer (some ⟨g, 0, none⟩)] w2 fun x w' => x = .returned (.bool false) ∧ RdT w' B g s (q + 1) m (tx ++ unS (s.extract m q)) v es ∧ Below g w2 w' from CK.out)
      clear hu ST HNO HEX hqe HSG huz
      go_wp2_with fail
      refine CK.out.mono ?_
      rintro e w3 ⟨rfl, -, hb3⟩
      have HB3 := hid (HB2.out.trans hb3)
      clear hb3 CK HT2
      go_wp2_with fail
      try simp only [Exit.jump]
      go_ret
      exact AlPost.no HB3.out HE.out
    | some u =>
      have hun := unS_some hu
      rw [hu, hun] at CK
      obtain ⟨hV, hzz⟩ := ST.out.lx.fin HNO.out (by rw [← hqe]; exact hu)
      have HFA := hid (flush_ans (B := B) (g := g) (s := s) (tx := tx ++ bytesOf u) (es := es) rfl hV ST.out.lx.ok ST.out.lx.few)
      have hel : es.length ≤ 1000 := by have := ST.out.lx.few; rw [List.length_map] at this; omega
      clear hu hun ST HNO HEX hqe HSG hV huz
      replace CK := hid (show Calls Tryz.prog 142 #[.pointer (some ⟨g, 0, none⟩)] w2 fun x w' => x = .returned (.bool true) ∧ RdT w' B g s (q + 1) m (tx ++ bytesOf u) v es ∧ Below g w2 w' from CK.out)
      generalize hTT : tx ++ bytesOf u = TT at *
      go_wp2_with fail
      refine CK.out.mono ?_
      rintro e w3 ⟨rfl, ht3, hb3⟩
      have HB3 := hid (HB2.out.trans hb3)
      have CE := hid (cEndText B g s (q + 1) m TT v es w3 ht3 hel (by omega))
      generalize hFB : flushB TT es = FB at *
      clear ht3 hb3 CK HT2 HB2
      go_wp2_with fail
      refine CE.out.mono ?_
      rintro e w4 ⟨rfl, ⟨v4, ht4⟩, hb4⟩
      have HT4 := hid ht4
      have HB4 := hid (HB3.out.trans hb4)
      clear ht4 hb4 CE HB3
      go_wp2_with fail
      try simp only [Exit.jump]
      go_ret
      exact ⟨FB, rfl, HB4.out, HFA.out.1, fun hh => ⟨_, _, _, v4, _, HT4.out, HFA.out.2 hh⟩⟩

end Go.Proofs.YteninofjeidljaaGreat

namespace Go.Proofs.YteninofjeidljaaGreat

open Go.RowKit

set_option linter.unusedVariables false

set_option linter.unusedSimpArgs false

set_option maxRecDepth 8000 in
set_option maxHeartbeats 4000000 in
theorem cOpeningEnd (g : Nat) (s : ByteArray) (p : Nat) (tx : ByteArray) (v : Value) (w : World) (h : Rdr w g s (p + 1) p tx v) (hp : s.size ≤ p) (hs : p ≤ 10000) :
    Calls Tryz.prog 144 #[.pointer (some ⟨g, 0, none⟩)] w fun x w' => x = .returned (.bool false) ∧ Below g w w' := by
  have hgl := lt_of_heap h.heap
  have HB2 := hid (((Below.refl w.heap.size w).alloc (Nat.le_refl _) (.cells #[.int .i64 1, .string ⟨#[]⟩, .slice none 0 0, .string ⟨#[]⟩] 49)).alloc (by simp) (.cells #[.string ⟨#[]⟩, .string ⟨#[]⟩] 114))
  have HR := hid h
  clear h
  go_enter Tryz.func144, Tryz.ntmps144
  go_wp2_with fail
  refine wp_scope_four (fun _ _ => False) (fun _ _ => False) (fun _ _ => False) (fun _ _ => False) (fun _ _ _ => 0) rfl rfl rfl rfl ?_ (fun _ _ h => h.elim) (fun _ _ h => h.elim) (fun _ _ h => h.elim) (fun _ _ h => h.elim)
  go_wp2_with fail
  go_step3
  obtain ⟨w1, hw1⟩ : ∃ w1, (w.alloc (.cells #[.int .i64 1, .string ⟨#[]⟩, .slice none 0 0, .string ⟨#[]⟩] 49)).alloc (.cells #[.string ⟨#[]⟩, .string ⟨#[]⟩] 114) = w1 := ⟨_, rfl⟩
  rw [hw1] at HB2
  simp only [hw1]
  have CN := hid (cNext g s (p + 1) p tx v w1 (HR.out.below HB2.out) (by omega) (by omega))
  have HSG := hid (show sgnAt s (p + 1) = 0 by unfold sgnAt; rw [dif_neg (by omega)])
  rw [HSG.out] at CN
  clear hw1 HSG HR
  go_wp2_with fail
  refine CN.out.mono ?_
  rintro e w2 ⟨rfl, hr2, hk2⟩
  have HBF := hid (((KeepB.of_below _ HB2.out).trans hk2).below (Nat.le_of_lt hgl) (fun k e => by rw [e]; exact Nat.le_refl _))
  clear hr2 hk2 CN
  go_wp2_with fail
  try simp only [Exit.jump]
  try simp only [jumpsTo]
  go_ret
  exact ⟨rfl, HBF.out⟩

end Go.Proofs.YteninofjeidljaaGreat
