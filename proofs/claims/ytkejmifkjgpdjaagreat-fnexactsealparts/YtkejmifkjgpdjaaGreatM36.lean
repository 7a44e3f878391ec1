/- A node as a shape: contract of (shaper).node. A shape written: contract of written. The one way to write it: contracts of the program's Canon, CanonAll and SameCanon. -/
import Derived.Test.YtkejmifkjgpdjaaGreatM35
import Derived.Test.YtkejmifkjgpdjaaGreatM29
import Derived.Test.YtkejmifkjgpdjaaGreatM34
import Derived.Test.YtkejmifkjgpdjaaGreatM23
import Derived.Test.YtkejmifkjgpdjaaGreatM26
import Derived.Deep.RegionHeld3
namespace Go.Proofs.YtkejmifkjgpdjaaGreat
open Go.RowKit
set_option linter.unusedVariables false
set_option linter.unusedSimpArgs false

theorem right_of {ts : List Tk} (hN : NamesP ts) {k : Nat} (hk : k < ts.length) (hne : ¬ (nodeAt ts k).name.size = 0) : (outAts ts k).all rightB = true := by
  rw [nodeAt_at hk] at hne
  have h := hN.2 k ts[k] (List.getElem?_eq_getElem hk)
  rcases h with h | ⟨h, _⟩
  · exact absurd h hne
  · cases q : (outAts ts k).all rightB with
    | true => rfl
    | false => rw [meanF_not q] at h; cases h

theorem canon_small {ts : List Tk} (hT : TreeP ts) (hz : TksSz 1048576 ts) (but : Int) (f k : Nat) (sd : List At) (hk : k < ts.length) : (canonN ts but f k sd).size ≤ 4000000000 := by
  have h1 := canon_size hT hz but f k sd hk
  have h2 := (endN_le hk).2
  have h50 : ts.length ≤ 50 := hT.2.1
  have h3 : 70000000 * (endN ts k - k) ≤ 70000000 * 50 := Nat.mul_le_mul_left _ (by omega)
  omega

theorem NewAts.rowX {w : World} {B B' : Nat} {a : Option Addr} {c : Nat} {l : List At} (h : NewAts w B a c l) (hB : B' ≤ B) : RowX (fun g => B' ≤ g) w a l := by
  refine ⟨h.row, fun g o h0 e => ?_⟩
  rcases h with ⟨rfl, rfl, rfl⟩ | ⟨g', rfl, h1, h2⟩
  · cases e
  · injection e with e
    injection e with e
    subst e
    exact Nat.le_trans hB h1

theorem KidsAt.widen {w : World} {B B' f : Nat} {a3 : Option Addr} {ss : List ByteArray} (h : KidsAt (fun g => B ≤ g) w f a3 ss) (hB : B' ≤ B) : KidsAt (fun g => B' ≤ g) w f a3 ss := fun i hi => by
  obtain ⟨g, o, u, q1, q2, q3, q4, q5⟩ := h i hi
  exact ⟨g, o, u, q1, Nat.le_trans hB q2, q3, q4, q5.keep (fun _ _ h => Nat.le_trans hB h) (Nat.le_refl _) (fun _ _ _ => rfl)⟩

theorem NewAts.mono {w : World} {B B' : Nat} {a : Option Addr} {c : Nat} {l : List At} (h : NewAts w B a c l) (hB : B' ≤ B) : NewAts w B' a c l := by
  rcases h with h | ⟨g', e, h1, h2⟩
  · exact .inl h
  · exact .inr ⟨g', e, Nat.le_trans hB h1, h2⟩

set_option maxRecDepth 8000 in
set_option maxHeartbeats 4000000 in
theorem cNode1 (ts : List Tk) (a : Option Addr) (cap : Nat) (but : Int) (f : Nat) (CN : NodeC ts a cap but f) (hN : NamesP ts) (hz : TksSz 1048576 ts) : NodeC ts a cap but (f + 1) := by
  intro k sd l2 pl F F2 C C2 w hR hk hf hb hpl hS hA hA2
  have hT := hN.1
  obtain ⟨gb, go, aa, ca, rfl, hgb, q0, q1, q2, q3, hra⟩ := hR k hk
  have hz' := nodeAt_sz hz k
  have h50 : ts.length ≤ 50 := hT.2.1
  have hra' : AtRow w aa (nodeAt ts k).attrs := by rw [nodeAt_at hk]; exact hra
  rw [← nodeAt_at hk] at q0 q1 q2 q3
  have hkn : (k : Int) < (ts.length : Int) := by omega
  have HB0 := hid (((Below.refl w.heap.size w).alloc (Nat.le_refl _) (.cells #[.slice (some ⟨gb, go, none⟩) ts.length cap, .int .i64 but] 93)))
  have CT := hid (fun wx => cIsText (nodeAt ts k).kind (nodeAt ts k).name aa (nodeAt ts k).attrs.length ca (nodeAt ts k).text wx hz'.1)
  have M0 := hid (heap_alloc_new w (.cells #[.slice (some ⟨gb, go, none⟩) ts.length cap, .int .i64 but] 93))
  have hs0 : (w.alloc (.cells #[.slice (some ⟨gb, go, none⟩) ts.length cap, .int .i64 but] 93)).heap.size = w.heap.size + 1 := by simp
  obtain ⟨w0, hw0⟩ : ∃ w0, w.alloc (.cells #[.slice (some ⟨gb, go, none⟩) ts.length cap, .int .i64 but] 93) = w0 := ⟨_, rfl⟩
  rw [hw0] at HB0 M0 hs0
  have p0 := (HB0.out.cell (p := ⟨gb, go + k * 4, none⟩) hgb).trans q0
  have p1 := (HB0.out.cell (p := ⟨gb, go + k * 4 + 1, none⟩) hgb).trans q1
  have p2 := (HB0.out.cell (p := ⟨gb, go + k * 4 + 2, none⟩) hgb).trans q2
  have p3 := (HB0.out.cell (p := ⟨gb, go + k * 4 + 3, none⟩) hgb).trans q3
  obtain ⟨⟨x0, x1⟩, _⟩ := box2e M0.out
  have HB1 := hid (HB0.out.alloc HB0.out.size (.cells #[.int .i64 (nodeAt ts k).kind, .string (nodeAt ts k).name, .slice aa (nodeAt ts k).attrs.length ca, .string (nodeAt ts k).text] 44))
  have M1 := hid (heap_alloc_new w0 (.cells #[.int .i64 (nodeAt ts k).kind, .string (nodeAt ts k).name, .slice aa (nodeAt ts k).attrs.length ca, .string (nodeAt ts k).text] 44))
  have MS := hid (blk_alloc M0.out (.cells #[.int .i64 (nodeAt ts k).kind, .string (nodeAt ts k).name, .slice aa (nodeAt ts k).attrs.length ca, .string (nodeAt ts k).text] 44))
  have HCS := hid (canon_small hT hz but (f + 1) k sd hk)
  have HW0 := hid hw0
  have HS0 := hid hs0
  by_cases hne : (nodeAt ts k).name.size = 0
  · have HTX := hid (canonN_text (f := f) (sd := sd) rfl hb hne)
    rw [decide_eq_true hne] at CT
    have HTZ := hid hz'.2.2.2
    clear hra hra' hz' hne CN hN hz hR hk hf hb hpl hS hA hA2 hT h50 q0 q1 q2 q3 hgb MS hs0 hw0
    generalize ts.length = n at *
    generalize (nodeAt ts k).kind = tk at *
    generalize (nodeAt ts k).name = tn at *
    generalize (nodeAt ts k).attrs.length = ta at *
    generalize (nodeAt ts k).text = tx at *
    have hw0 := HW0.out
    go_enter Tryz.func59, Tryz.ntmps59
    go_wp2_with fail
    refine (CT.out _).mono ?_
    rintro e w1 ⟨rfl, hb1⟩
    have HB2 := hid (bb HB1.out hb1)
    obtain ⟨⟨y0, y1, y2, y3⟩, _⟩ := box4 (blk_below M1.out hb1)
    clear hb1 CT hw0
    go_wp2_with fail
    go_ret
    exact ⟨_, rfl, ⟨HCS.out, .inl ⟨tx, rfl, HTZ.out, HTX.out⟩⟩, HB2.out⟩
  · have hr := right_of hN hk hne
    have h6 := six_at hT k hne
    obtain ⟨O, hO⟩ : ∃ O, sortG (ltA (outAts ts k)) ((nodeAt ts k).attrs.filter nodeclB) = O := ⟨_, rfl⟩
    obtain ⟨D, hD⟩ : ∃ D, dclP (outAts ts k) l2 (needL (nodeAt ts k).name O) = D := ⟨_, rfl⟩
    obtain ⟨ss, hss⟩ : ∃ ss, kidSS ts but f (saidL ts k sd (nodeAt ts k)) (kidsN ts k) = ss := ⟨_, rfl⟩
    have EI := el_is (f := f) hT hz rfl hb hne hr hS hO hD hss
    have ho : OrdB (ltA (outAts ts k)) := by rw [lt_ahead hr]; exact ahead_ord ts k
    have CNE := hid (fun wx (hbx : Below w.heap.size w wx) => cNearer aa ca (nodeAt ts k).attrs F C pl wx (hA.below hbx) (hra'.below hbx) hz'.2.2.1 hz'.2.1)
    rw [← hpl] at CNE
    have COT := hid (fun (C' : Array Value) wx (hbx : Below w.heap.size w wx) (hA' : Asks 112 C' wx (outAts ts k)) => cOtherAttrs aa ca (nodeAt ts k).attrs 112 C' (outAts ts k) wx ho hA' (hra'.below hbx) hz'.2.2.1 h6)
    rw [hO] at COT
    have CPR := hid (fun (ao : Option Addr) (co : Nat) wx (hr : AtRow wx ao O) => cNeeded (nodeAt ts k).name ao co O wx hr EI.osz EI.olen hz'.1)
    have CND := hid (fun (v : Value) (C' : Array Value) wx (hbx : Below w.heap.size w wx) (hrd : Rd wx 1 v (needL (nodeAt ts k).name O).length (keyV (needL (nodeAt ts k).name O))) (hA' : Asks 112 C' wx (outAts ts k)) => cNewDecl v (needL (nodeAt ts k).name O) 112 F2 C' C2 (outAts ts k) l2 wx hrd hA' (hA2.below hbx) EI.psz EI.plen)
    rw [hD] at CND
    have CN2 := hid (fun (ad : Option Addr) (cd : Nat) wx (hbx : Below w.heap.size w wx) (hrow : AtRow wx ad D) => cNearer ad cd D F2 C2 l2 wx (hA2.below hbx) hrow EI.dsz (by have := EI.dlen; omega))
    have CIN := hid (fun (C' C'' : Array Value) wx (hbx : Below w.heap.size w wx) (hA' : Asks 112 C' wx (outAts ts k)) (hA'' : Asks 112 C'' wx (D ++ l2)) => cInside ts (some ⟨gb, go, none⟩) cap but f CN hT hz k (saidL ts k sd (nodeAt ts k)) (D ++ l2) 112 112 C' C'' wx (hR.below hbx) hk (by omega) EI.said hA' hA'')
    rw [hss] at CIN
    have HSH := hid (show ∀ (ad : Option Addr) (cd : Nat) (ao : Option Addr) (co : Nat) (a3 : Option Addr) (c3 : Nat) (wx : World), NewAts wx w.heap.size ad cd D → NewAts wx w.heap.size ao co O → KidsAt (fun g => w.heap.size ≤ g) wx f a3 ss → ShAt (fun g => w.heap.size ≤ g) wx (f + 1) (.iface 128 (.agg #[.string (nodeAt ts k).name, .slice ad D.length cd, .slice ao O.length co, .slice a3 ss.length c3])) (canonN ts but (f + 1) k sd) from
      fun ad cd ao co a3 c3 wx h1 h2 h3 => ⟨HCS.out, .inr ⟨(nodeAt ts k).name, ad, cd, D, ao, co, O, a3, c3, ss, rfl, hz'.1, h1.rowX (Nat.le_refl _), EI.dsz, EI.dlen, h2.rowX (Nat.le_refl _), EI.osz, by have := EI.olen; omega, by
        rw [← hss]
        unfold kidSS
        rw [List.length_map]
        have g1 := List.length_filter_le (notB but) (kidsN ts k)
        have g2 := kidsTo_len ts k ts.length
        have g3 : (kidsN ts k).length ≤ ts.length := g2
        omega, h3, EI.text⟩⟩)
    rw [decide_eq_false hne] at CT
    clear EI hO hD hss ho h6 hr hra hra' hz' hne CN hN hz hR hk hf hb hpl hS hA hA2 hT h50 q0 q1 q2 q3 hgb hs0 hw0 HCS
    generalize canonN ts but (f + 1) k sd = RES at *
    generalize needL (nodeAt ts k).name O = ND at *
    generalize ts.length = n at *
    generalize (nodeAt ts k).kind = tk at *
    generalize (nodeAt ts k).name = tn at *
    generalize (nodeAt ts k).attrs.length = ta at *
    generalize (nodeAt ts k).text = tx at *
    generalize D.length = nD at *
    generalize O.length = nO at *
    generalize ss.length = nS at *
    have hw0 := HW0.out
    go_enter Tryz.func59, Tryz.ntmps59
    go_wp2_with fail
    refine (CT.out _).mono ?_
    rintro e w1 ⟨rfl, hb1⟩
    have HB2 := hid (bb HB1.out hb1)
    have M2 := hid (blk_below M1.out hb1)
    have MS2 := hid (blk_below MS.out hb1)
    obtain ⟨⟨y0, y1, y2, y3⟩, _⟩ := box4 M2.out
    clear hb1 CT hw0 p0 p1 p2 p3 x0 x1 HB0 HB1 M0 M1 MS
    go_wp2_with fail
    refine (CNE.out _ HB2.out).mono ?_
    rintro e w2 ⟨C', rfl, hA3, hb3⟩
    have HB3 := hid (bb HB2.out hb3)
    have M3 := hid (blk_below M2.out hb3)
    have MS3 := hid (blk_below MS2.out hb3)
    have HA3 := hid hA3
    clear hA3 hb3 y0 y1 y2 y3 M2 MS2 HB2 CNE
    obtain ⟨⟨y0, y1, y2, y3⟩, _⟩ := box4 M3.out
    go_wp2_with fail
    refine (COT.out _ _ HB3.out HA3.out).mono ?_
    rintro e w3 ⟨ao, co, rfl, hno, hb4⟩
    have HB4 := hid (bb HB3.out hb4)
    have M4 := hid (blk_below M3.out hb4)
    have MS4 := hid (blk_below MS3.out hb4)
    have HA4 := hid (HA3.out.below hb4)
    have HNO := hid (hno.mono HB3.out.size)
    clear hno hb4 y0 y1 y2 y3 M3 MS3 HB3 HA3 COT
    obtain ⟨⟨y0, y1, y2, y3⟩, _⟩ := box4 M4.out
    go_wp2_with fail
    refine (CPR.out ao co _ HNO.out.row).mono ?_
    rintro e w4 ⟨vp, rfl, hrd, hb5⟩
    have HB5 := hid (bb HB4.out hb5)
    have M5 := hid (blk_below M4.out hb5)
    have MS5 := hid (blk_below MS4.out hb5)
    have HA5 := hid (HA4.out.below hb5)
    have HNO5 := hid (HNO.out.below hb5)
    have HRD := hid hrd
    clear hrd hb5 y0 y1 y2 y3 M4 MS4 HB4 HA4 HNO CPR
    go_wp2_with fail
    refine (CND.out vp _ _ HB5.out HRD.out HA5.out).mono ?_
    rintro e w5 ⟨ad, cd, rfl, hnd, hb6⟩
    have HB6 := hid (bb HB5.out hb6)
    have M6 := hid (blk_below M5.out hb6)
    have MS6 := hid (blk_below MS5.out hb6)
    have HA6 := hid (HA5.out.below hb6)
    have HNO6 := hid (HNO5.out.below hb6)
    have HND := hid (hnd.mono HB5.out.size)
    clear hnd hb6 M5 MS5 HB5 HA5 HNO5 HRD CND
    go_wp2_with fail
    have HBc := hid ((Below.refl w5.heap.size w5).drew)
    have HSX := hid (show ∀ W', Below w5.heap.size w5 W' → W'.cell? ⟨w.heap.size, 0, none⟩ = some (.slice (some ⟨gb, go, none⟩) n cap) ∧ W'.cell? ⟨w.heap.size, 1, none⟩ = some (.int .i64 but) from fun W' hb => (box2e (blk_below MS6.out hb)).1)
    go_region_held3 (fun w' => w'.cell? ⟨w.heap.size, 0, none⟩ = some (.slice (some ⟨gb, go, none⟩) n cap) ∧ w'.cell? ⟨w.heap.size, 1, none⟩ = some (.int .i64 but)) (exact HSX.out _ HBc.out)
      (first
        | (go_at_call 83; refine (CN2.out ad cd _ (bb HB6.out HBc.out) (HND.out.row.below HBc.out)).mono ?_; rintro e w6 ⟨C'', rfl, hA7, hb7⟩; have HA7 := hid hA7; replace HBc := hid (bb HBc.out hb7); clear hA7 hb7)
        | (go_at_call 100; refine (CIN.out _ _ _ (bb HB6.out HBc.out) (HA6.out.below HBc.out) HA7.out).mono ?_; rintro e w7 ⟨a3, c3, rfl, hk3, hb8⟩; have HK3 := hid (show KidsAt (fun g => w.heap.size ≤ g) w7 f a3 ss from hk3.widen (bb HB6.out HBc.out).size); replace HBc := hid (bb HBc.out hb8); clear hk3 hb8))
    obtain ⟨⟨y0, y1, y2, y3⟩, _⟩ := box4 (blk_below M6.out HBc.out)
    have HB9 := hid (bb HB6.out HBc.out)
    have HFIN := hid (HSH.out ad cd ao co a3 c3 _ (HND.out.below HBc.out) (HNO6.out.below HBc.out) HK3.out)
    clear HBc
    go_wp2_with fail
    go_ret
    exact ⟨_, rfl, HFIN.out, HB9.out⟩

end Go.Proofs.YtkejmifkjgpdjaaGreat

namespace Go.Proofs.YtkejmifkjgpdjaaGreat
open Go.RowKit
set_option linter.unusedVariables false
set_option linter.unusedSimpArgs false

theorem ta_el (v : Value) (w : World) : (Instr.typeAssert (.iface 128 v) 91 128 true).run Tryz.prog w = .ok (.tuple #[v, .bool true]) w := by
  simp [Instr.typeAssert, run_underlying Tryz.underlying128]

theorem ta_no (v : Value) (w : World) : (Instr.typeAssert (.iface 131 v) 91 128 true).run Tryz.prog w = .ok (.tuple #[.agg #[.string ⟨#[]⟩, .slice none 0 0, .slice none 0 0, .slice none 0 0], .bool false]) w := by
  simp [Instr.typeAssert, run_underlying Tryz.underlying128, Tryz.zeroValue128]

theorem ta_tx (v : Value) (w : World) : (Instr.typeAssert (.iface 131 v) 91 131 true).run Tryz.prog w = .ok (.tuple #[v, .bool true]) w := by
  simp [Instr.typeAssert, run_underlying Tryz.underlying131]

set_option maxRecDepth 8000 in
set_option maxHeartbeats 4000000 in
theorem cWritText (t : ByteArray) (w : World) (ht : t.size ≤ 1048576) : Calls Tryz.prog 58 #[.iface 131 (.string t)] w fun e w' => e = .returned (.string (escS false t)) ∧ Below w.heap.size w w' := by
  have C := hid (c_impl_Escaped t false w ht)
  have e1 : (⟨(escapedL false t.data.toList).toArray⟩ : ByteArray) = escS false t := rfl
  rw [e1] at C
  generalize escS false t = E at *
  have h1 := ta_no (.string t)
  have h2 := ta_tx (.string t)
  clear e1 ht
  go_enter Tryz.func58, Tryz.ntmps58
  go_wp2_with fail
  refine C.out.mono ?_
  rintro e w1 ⟨rfl, hb1⟩
  have HB1 := hid hb1
  clear hb1
  go_wp2_with fail
  go_ret
  exact ⟨rfl, HB1.out⟩

set_option maxRecDepth 8000 in
set_option maxHeartbeats 4000000 in
theorem cWritEl (f : Nat) (X : Nat → Prop) (CW : ∀ (v : Value) (s : ByteArray) (wx : World), ShAt X wx f v s → Calls Tryz.prog 58 #[v] wx fun e w' => e = .returned (.string s) ∧ Below wx.heap.size wx w')
    (nm : ByteArray) (a1 : Option Addr) (c1 : Nat) (ds : List At) (a2 : Option Addr) (c2 : Nat) (os : List At) (a3 : Option Addr) (c3 : Nat) (ss : List ByteArray) (w : World) (hs : (elS nm ds os ss).size ≤ 4000000000)
    (r1 : RowX X w a1 ds) (z1 : AtSz 1048576 ds) (n1 : ds.length ≤ 7) (r2 : RowX X w a2 os) (z2 : AtSz 1048576 os) (n2 : os.length ≤ 7) (n3 : ss.length ≤ 1048576) (hK : KidsAt X w f a3 ss) :
    Calls Tryz.prog 58 #[.iface 128 (.agg #[.string nm, .slice a1 ds.length c1, .slice a2 os.length c2, .slice a3 ss.length c3])] w fun e w' => e = .returned (.string (elS nm ds os ss)) ∧ Below w.heap.size w w' := by
  have hel : elS nm ds os ss = ((((((((⟨#[60]⟩ : ByteArray) ++ nm) ++ atsS ds ⟨#[]⟩) ++ atsS os ⟨#[]⟩) ++ ⟨#[62]⟩) ++ catL ss) ++ ⟨#[60, 47]⟩) ++ nm) ++ ⟨#[62]⟩ := rfl
  have hc4 : (catL ss).size ≤ 4000000000 := by
    rw [hel] at hs
    simp only [ByteArray.size_append] at hs
    omega
  have HB := hid ((Below.refl w.heap.size w).alloc (Nat.le_refl _) (.cells #[.string nm, .slice a1 ds.length c1, .slice a2 os.length c2, .slice a3 ss.length c3] 128))
  have M := hid (heap_alloc_new w (.cells #[.string nm, .slice a1 ds.length c1, .slice a2 os.length c2, .slice a3 ss.length c3] 128))
  obtain ⟨W, hW⟩ : ∃ W, w.alloc (.cells #[.string nm, .slice a1 ds.length c1, .slice a2 os.length c2, .slice a3 ss.length c3] 128) = W := ⟨_, rfl⟩
  rw [hW] at HB M
  have CA := hid (fun p : BW W => cShownAttrs7 a1 c1 ds p.w (r1.1.below (bb HB.out p.h)) z1 n1)
  have CB := hid (fun p : BW W => cShownAttrs7 a2 c2 os p.w (r2.1.below (bb HB.out p.h)) z2 n2)
  have CC := hid (fun p : BW W => cWrittenAll f X CW a3 c3 ss p.w (hK.below (bb HB.out p.h)) n3 hc4)
  have h1 := ta_el (.agg #[.string nm, .slice a1 ds.length c1, .slice a2 os.length c2, .slice a3 ss.length c3])
  obtain ⟨g, hg⟩ : ∃ g, w.heap.size = g := ⟨_, rfl⟩
  rw [hg] at M
  have k0 : ∀ p : BW W, p.w.cell? ⟨g, 0, none⟩ = some (.string nm) := fun p => (box4 (blk_below M.out p.h)).1.1
  have k1 : ∀ p : BW W, p.w.cell? ⟨g, 1, none⟩ = some (.slice a1 ds.length c1) := fun p => (box4 (blk_below M.out p.h)).1.2.1
  have k2 : ∀ p : BW W, p.w.cell? ⟨g, 2, none⟩ = some (.slice a2 os.length c2) := fun p => (box4 (blk_below M.out p.h)).1.2.2.1
  have k3 : ∀ p : BW W, p.w.cell? ⟨g, 3, none⟩ = some (.slice a3 ss.length c3) := fun p => (box4 (blk_below M.out p.h)).1.2.2.2
  have HNB := hid (bw_any W)
  have HW := hid hW
  have Hg := hid hg
  rw [hel] at hs ⊢
  generalize atsS ds ⟨#[]⟩ = T1 at *
  generalize atsS os ⟨#[]⟩ = T2 at *
  generalize catL ss = T3 at *
  generalize ds.length = m1 at *
  generalize os.length = m2 at *
  generalize ss.length = m3 at *
  clear hel CW r1 z1 n1 r2 z2 n2 n3 hK hc4 M hW hg
  obtain ⟨B60, q60⟩ : ∃ B : ByteArray, (⟨#[60]⟩ : ByteArray) = B := ⟨_, rfl⟩
  obtain ⟨B62, q62⟩ : ∃ B : ByteArray, (⟨#[62]⟩ : ByteArray) = B := ⟨_, rfl⟩
  obtain ⟨B6047, q6047⟩ : ∃ B : ByteArray, (⟨#[60, 47]⟩ : ByteArray) = B := ⟨_, rfl⟩
  have Q60 := hid q60
  have Q62 := hid q62
  have Q6047 := hid q6047
  rw [q60, q62, q6047] at hs ⊢
  clear q60 q62 q6047
  obtain ⟨S1, s1⟩ : ∃ S, B60 ++ nm = S := ⟨_, rfl⟩
  obtain ⟨S2, s2⟩ : ∃ S, S1 ++ T1 = S := ⟨_, rfl⟩
  obtain ⟨S3, s3⟩ : ∃ S, S2 ++ T2 = S := ⟨_, rfl⟩
  obtain ⟨S4, s4⟩ : ∃ S, S3 ++ B62 = S := ⟨_, rfl⟩
  obtain ⟨S5, s5⟩ : ∃ S, S4 ++ T3 = S := ⟨_, rfl⟩
  obtain ⟨S6, s6⟩ : ∃ S, S5 ++ B6047 = S := ⟨_, rfl⟩
  obtain ⟨S7, s7⟩ : ∃ S, S6 ++ nm = S := ⟨_, rfl⟩
  obtain ⟨S8, s8⟩ : ∃ S, S7 ++ B62 = S := ⟨_, rfl⟩
  rw [s1, s2, s3, s4, s5, s6, s7, s8] at hs ⊢
  have z1 := of_size s1
  have z2 := of_size s2
  have z3 := of_size s3
  have z4 := of_size s4
  have z5 := of_size s5
  have z6 := of_size s6
  have z7 := of_size s7
  have z8 := of_size s8
  have f1 : ¬ 9223372036854775807 < B60.size + nm.size := by omega
  have f2 : ¬ 9223372036854775807 < S1.size + T1.size := by omega
  have f3 : ¬ 9223372036854775807 < S2.size + T2.size := by omega
  have f4 : ¬ 9223372036854775807 < S3.size + B62.size := by omega
  have f5 : ¬ 9223372036854775807 < S4.size + T3.size := by omega
  have f6 : ¬ 9223372036854775807 < S5.size + B6047.size := by omega
  have f7 : ¬ 9223372036854775807 < S6.size + nm.size := by omega
  have f8 : ¬ 9223372036854775807 < S7.size + B62.size := by omega
  clear z1 z2 z3 z4 z5 z6 z7 z8 hs
  go_enter Tryz.func58, Tryz.ntmps58
  go_wp2_with fail
  simp only [HW.out, Hg.out, Q60.out, Q62.out, Q6047.out]
  haveI := HNB.out
  refine wp_region_below (by kernel_rfl) (by kernel_rfl) (Below.refl W.heap.size W) ?_
  repeat (go_big_quiet_step ((first | (go_at_call 94; first | (with_reducible exact calls_bw _ (CA.out _)) | (with_reducible exact calls_bw _ (CB.out _))) | (go_at_call 95; exact calls_bw _ (CC.out _)))))
  refine wpQuiet_nil ?_
  intro _ hw'
  obtain ⟨⟨wq, hwq⟩, hw''⟩ := hw'
  subst hw''
  have HWQ := hid (bb HB.out hwq)
  clear hwq k0 k1 k2 k3
  go_wp2_with fail
  go_ret
  exact ⟨rfl, HWQ.out⟩

theorem cWritten (X : Nat → Prop) : ∀ (f : Nat) (v : Value) (s : ByteArray) (w : World), ShAt X w f v s → Calls Tryz.prog 58 #[v] w fun e w' => e = .returned (.string s) ∧ Below w.heap.size w w'
  | 0, v, s, w, h => h.elim
  | f + 1, v, s, w, h => by
    obtain ⟨h0, ⟨t, rfl, ht, rfl⟩ | ⟨nm, a1, c1, ds, a2, c2, os, a3, c3, ss, rfl, e2, e3, e4, e5, e6, e7, e8, e9, e10, rfl⟩⟩ := h
    · exact cWritText t w ht
    · exact cWritEl f X (cWritten X f) nm a1 c1 ds a2 c2 os a3 c3 ss w h0 e3 e4 e5 e6 e7 e8 e9 e10

end Go.Proofs.YtkejmifkjgpdjaaGreat

namespace Go.Proofs.YtkejmifkjgpdjaaGreat
open Go.RowKit
set_option linter.unusedVariables false
set_option linter.unusedSimpArgs false

theorem cNodeAll (ts : List Tk) (a : Option Addr) (cap : Nat) (but : Int) (hN : NamesP ts) (hz : TksSz 1048576 ts) : ∀ f, NodeC ts a cap but f
  | 0 => fun k sd l2 pl F F2 C C2 w hR hk hf => absurd hf (by omega)
  | f + 1 => cNode1 ts a cap but f (cNodeAll ts a cap but hN hz f) hN hz

theorem cLookupP (a : Option Addr) (cap : Nat) (ts : List Tk) (k : Nat) (w : World) (hR : TkRow w a ts) (hT : TreeP ts) (hk : k < ts.length) (hn : ts.length ≤ 1048576) (hz : TksSz 1048576 ts) (hr : (outAts ts k).all rightB = true) :
    ∃ pl, outAts ts k = (nodeAt ts k).attrs ++ pl ∧ Calls Tryz.prog 49 #[.slice a ts.length cap, .int .i64 (nodeAt ts k).kind] w fun e w' =>
      ∃ F C, e = .returned (.tuple #[.func (.func F) #[] C, .bool true]) ∧ Asks F C w' pl ∧ Below w.heap.size w w' := by
  obtain ⟨h1, h2⟩ := chain_at hT hk
  obtain ⟨r, hc⟩ := chain_head ts k
  have hl : 0 < (chainF ts (k + 1)).length := by rw [hc]; exact Nat.succ_pos _
  have h3 := (h1 0 hl).2.1
  have e0 : (chainF ts (k + 1))[0] = k := by simp [hc]
  rw [e0] at h3
  have ek : (nodeAt ts k).kind = kAt (chainF ts (k + 1)) 1 := by
    rw [← h3, nodeAt_at hk]
    unfold parI
    rw [List.getElem?_eq_getElem hk]
  have h := cLookupC a cap ts _ h1 hn hz ((chainF ts (k + 1)).length - 1) 1 (by omega) w hR
  have eo : outAts ts k = (nodeAt ts k).attrs ++ upAts ts ((chainF ts (k + 1)).drop 1) := by
    unfold outAts
    rw [hc, nodeAt_at hk]
    unfold upAts
    rw [List.flatMap_cons, List.getElem?_eq_getElem hk]
    rfl
  refine ⟨_, eo, ?_⟩
  rw [ek]
  have hr2 : (upAts ts ((chainF ts (k + 1)).drop 1)).all rightB = true := by
    rw [eo, List.all_append, Bool.and_eq_true] at hr
    exact hr.2
  refine h.mono fun e w' ⟨v, he, hv, hb⟩ => ?_
  rw [hr2] at he
  obtain ⟨F, C, rfl, hA⟩ := hv hr2
  exact ⟨F, C, he, hA, hb⟩

set_option maxRecDepth 8000 in
set_option maxHeartbeats 4000000 in
theorem cCanonJ (a : Option Addr) (cap : Nat) (ts : List Tk) (x y : Int) (w : World) (hR : TkRow w a ts) (hn : ts.length ≤ 1048576) (hz : TksSz 1048576 ts) :
    Calls Tryz.prog 25 #[.slice a ts.length cap, .int .i64 x, .int .i64 y] w fun e w' => e = .returned (.string (canonI ts x y)) ∧ Below w.heap.size w w' := by
  have CN := hid (cNamesOkI a cap ts w hR hn hz)
  have CE := hid (fun wx (hb : Below w.heap.size w wx) => cElementThere a cap ts x wx (hR.below hb) hn hz)
  have CH := hid (fun wx (hb : Below w.heap.size w wx) => cThere a cap ts y wx (hR.below hb) hn hz)
  cases h1 : namesB ts with
  | false =>
    rw [canonI_no (by unfold canB; rw [h1]; rfl)]
    rw [h1] at CN
    clear hR hz h1 CE CH
    generalize ts.length = n at *
    go_enter Tryz.func25, Tryz.ntmps25
    go_wp2_with fail
    refine CN.out.mono ?_
    rintro e w1 ⟨rfl, hb1⟩
    have HB1 := hid hb1
    clear hb1 CN
    go_wp2_with fail
    go_ret
    exact ⟨rfl, HB1.out⟩
  | true =>
    rw [h1] at CN
    cases h2 : elemB ts x with
    | false =>
      rw [canonI_no (by unfold canB; rw [h1, h2]; rfl)]
      rw [h2] at CE
      clear hR hz h1 h2 CH
      generalize ts.length = n at *
      go_enter Tryz.func25, Tryz.ntmps25
      go_wp2_with fail
      refine CN.out.mono ?_
      rintro e w1 ⟨rfl, hb1⟩
      have HB1 := hid hb1
      clear hb1 CN
      go_wp2_with fail
      refine (CE.out _ HB1.out).mono ?_
      rintro e w2 ⟨rfl, hb2⟩
      have HB2 := hid (bb HB1.out hb2)
      clear hb2 CE
      go_wp2_with fail
      go_ret
      exact ⟨rfl, HB2.out⟩
    | true =>
      rw [h2] at CE
      by_cases h4 : y = x
      · rw [canonI_no (by unfold canB; rw [h1, h2, decide_eq_true h4]; simp)]
        subst h4
        have hyy : (y == y) = true := by simp
        clear hR hz h1 h2 CH
        generalize ts.length = n at *
        go_enter Tryz.func25, Tryz.ntmps25
        go_wp2_with fail
        refine CN.out.mono ?_
        rintro e w1 ⟨rfl, hb1⟩
        have HB1 := hid hb1
        clear hb1 CN
        go_wp2_with fail
        refine (CE.out _ HB1.out).mono ?_
        rintro e w2 ⟨rfl, hb2⟩
        have HB2 := hid (bb HB1.out hb2)
        clear hb2 CE
        go_wp2_with fail
        go_ret
        exact ⟨rfl, HB2.out⟩
      · have hyx : (y == x) = false := by simpa using h4
        have hN : NamesP ts := by
          unfold namesB at h1
          simpa using h1
        obtain ⟨hT, k, rfl, hk⟩ := elemB_t h2
        have hne : ¬ (nodeAt ts k).name.size = 0 := by
          intro q
          unfold elemB at h2
          rw [Bool.and_eq_true] at h2
          have h5 := h2.2
          rw [show ((k : Int).toNat) = k from rfl, nameI_at hk, ← nodeAt_at hk, decide_eq_true q] at h5
          cases h5
        have hr := right_of hN hk hne
        obtain ⟨pl, hpl, _⟩ := cLookupP a cap ts k w hR hT hk hn hz hr
        have hpl2 : ∀ wx, Below w.heap.size w wx → Calls Tryz.prog 49 #[.slice a ts.length cap, .int .i64 (nodeAt ts k).kind] wx fun e w' => ∃ F C, e = .returned (.tuple #[.func (.func F) #[] C, .bool true]) ∧ Asks F C w' pl ∧ Below wx.heap.size wx w' := fun wx hb => by
          obtain ⟨pl', hpl', h⟩ := cLookupP a cap ts k wx (hR.below hb) hT hk hn hz hr
          have e : pl' = pl := by
            rw [hpl] at hpl'
            exact (List.append_cancel_left hpl').symm
          subst e
          exact h
        have CL := hid hpl2
        have hky : ¬ (k : Int) = y := fun e => h4 e.symm
        have CC := hid (fun (F : FuncId) (C : Array Value) wx (hb : Below w.heap.size w wx) (hA : Asks F C wx pl) => cNodeAll ts a cap y hN hz ts.length k [] [] pl F 60 C #[] wx (hR.below hb) hk (by omega) hky hpl saidR_nil hA (cAround wx))
        have CW := hid (fun (X : Nat → Prop) (v : Value) (s : ByteArray) (wx : World) (h : ShAt X wx ts.length v s) => cWritten X ts.length v s wx h)
        obtain ⟨gb, go, aa, ca, rfl, hgb, q0, q1, q2, q3, hra⟩ := hR k hk
        rw [← nodeAt_at hk] at q0
        have hkn : (k : Int) < (ts.length : Int) := by omega
        have HGB := hid hgb
        have HQ0 := hid q0
        by_cases h5 : y = -1
        · rw [canonI_yes (by unfold canB; rw [h1, h2, decide_eq_false h4, decide_eq_true (show -1 ≤ y ∧ y ≤ (ts.length : Int) - 1 by omega)]; rfl), show ((k : Int).toNat) = k from rfl]
          have hd : (y != -1) = false := by simp [h5]
          clear hR hz h1 h2 h4 h5 hT hk hN hne hr hpl hpl2 hky hgb q0 q1 q2 q3 hra CH
          generalize canonN ts y ts.length k [] = R at *
          generalize ts.length = n at *
          generalize (nodeAt ts k).kind = tk at *
          go_enter Tryz.func25, Tryz.ntmps25
          go_wp2_with fail
          refine CN.out.mono ?_
          rintro e w1 ⟨rfl, hb1⟩
          have HB1 := hid hb1
          clear hb1 CN
          go_wp2_with fail
          refine (CE.out _ HB1.out).mono ?_
          rintro e w2 ⟨rfl, hb2⟩
          have HB2 := hid (bb HB1.out hb2)
          have q0 := (HB2.out.cell (p := ⟨gb, go + k * 4, none⟩) HGB.out).trans HQ0.out
          clear hb2 CE HB1
          go_wp2_with fail
          refine (CL.out _ HB2.out).mono ?_
          rintro e w3 ⟨F, C, rfl, hA, hb3⟩
          have HB3 := hid (bb HB2.out hb3)
          have HA := hid hA
          clear hb3 hA HB2 q0 CL
          go_wp2_with fail
          refine (CC.out F C _ HB3.out HA.out).mono ?_
          rintro e w4 ⟨v, rfl, hv, hb4⟩
          have HB4 := hid (bb HB3.out hb4)
          have HV := hid (CW.out _ v R w4 hv)
          clear hb4 hv CC CW
          go_wp2_with fail
          refine HV.out.mono ?_
          rintro e w5 ⟨rfl, hb5⟩
          have HB5 := hid (bb HB4.out hb5)
          clear hb5 HV
          go_wp2_with fail
          go_ret
          exact ⟨rfl, HB5.out⟩
        · have hd : (y != -1) = true := by simp [h5]
          cases h6 : hasB ts y with
          | false =>
            have h7 : decide (-1 ≤ y ∧ y ≤ (ts.length : Int) - 1) = false := by
              refine decide_eq_false fun q => ?_
              obtain ⟨m, rfl⟩ : ∃ m : Nat, y = m := ⟨y.toNat, by omega⟩
              rw [has_of hT (by omega)] at h6
              cases h6
            rw [canonI_no (by unfold canB; rw [h1, h2, h7]; rfl)]
            rw [h6] at CH
            clear hR hz h1 h2 h4 h5 h6 h7 hT hk hN hne hr hpl hpl2 hky hgb q0 q1 q2 q3 hra CC CW CL
            generalize ts.length = n at *
            go_enter Tryz.func25, Tryz.ntmps25
            go_wp2_with fail
            refine CN.out.mono ?_
            rintro e w1 ⟨rfl, hb1⟩
            have HB1 := hid hb1
            clear hb1 CN
            go_wp2_with fail
            refine (CE.out _ HB1.out).mono ?_
            rintro e w2 ⟨rfl, hb2⟩
            have HB2 := hid (bb HB1.out hb2)
            clear hb2 CE
            go_wp2_with fail
            refine (CH.out _ HB2.out).mono ?_
            rintro e w3 ⟨rfl, hb3⟩
            have HB3 := hid (bb HB2.out hb3)
            clear hb3 CH
            go_wp2_with fail
            go_ret
            exact ⟨rfl, HB3.out⟩
          | true =>
            obtain ⟨_, m, hm, hml⟩ := hasB_t h6
            rw [canonI_yes (by unfold canB; rw [h1, h2, decide_eq_false h4, decide_eq_true (show -1 ≤ y ∧ y ≤ (ts.length : Int) - 1 by omega)]; rfl), show ((k : Int).toNat) = k from rfl]
            rw [h6] at CH
            clear hR hz h1 h2 h4 h5 h6 hm hml hT hk hN hne hr hpl hpl2 hky hgb q0 q1 q2 q3 hra
            generalize canonN ts y ts.length k [] = R at *
            generalize ts.length = n at *
            generalize (nodeAt ts k).kind = tk at *
            go_enter Tryz.func25, Tryz.ntmps25
            go_wp2_with fail
            refine CN.out.mono ?_
            rintro e w1 ⟨rfl, hb1⟩
            have HB1 := hid hb1
            clear hb1 CN
            go_wp2_with fail
            refine (CE.out _ HB1.out).mono ?_
            rintro e w2 ⟨rfl, hb2⟩
            have HB2 := hid (bb HB1.out hb2)
            clear hb2 CE HB1
            go_wp2_with fail
            refine (CH.out _ HB2.out).mono ?_
            rintro e w6 ⟨rfl, hb6⟩
            have HB6 := hid (bb HB2.out hb6)
            have q0 := (HB6.out.cell (p := ⟨gb, go + k * 4, none⟩) HGB.out).trans HQ0.out
            clear hb6 CH HB2
            go_wp2_with fail
            refine (CL.out _ HB6.out).mono ?_
            rintro e w3 ⟨F, C, rfl, hA, hb3⟩
            have HB3 := hid (bb HB6.out hb3)
            have HA := hid hA
            clear hb3 hA HB6 q0 CL
            go_wp2_with fail
            refine (CC.out F C _ HB3.out HA.out).mono ?_
            rintro e w4 ⟨v, rfl, hv, hb4⟩
            have HB4 := hid (bb HB3.out hb4)
            have HV := hid (CW.out _ v R w4 hv)
            clear hb4 hv CC CW
            go_wp2_with fail
            refine HV.out.mono ?_
            rintro e w5 ⟨rfl, hb5⟩
            have HB5 := hid (bb HB4.out hb5)
            clear hb5 HV
            go_wp2_with fail
            go_ret
            exact ⟨rfl, HB5.out⟩

theorem cCanonI (a : Option Addr) (cap : Nat) (ts : List Tk) (x y : Int) (w : World) (hR : TkRow w a ts) (hc : ts.length ≤ cap) (hn : ts.length ≤ 1048576) (hz : TksSz 1048576 ts) :
    Calls Tryz.prog 25 #[.slice a ts.length cap, .int .i64 x, .int .i64 y] w fun e w' => e = .returned (.string (canonI ts x y)) ∧ Below w.heap.size w w' := cCanonJ a cap ts x y w hR hn hz

end Go.Proofs.YtkejmifkjgpdjaaGreat
