/- A node as a shape: contract of (shaper).node. What is written in the one way, as tokens (mathematics alone). What grows from tokens (plain mathematics). What is told as tokens grows again, and what has grown is told as the same tokens (plain mathematics of promise 8). -/
import Derived.Test.YteninofjeidljaaGreatM22
import Derived.Test.YteninofjeidljaaGreatM19
import Derived.Test.YteninofjeidljaaGreatM12
import Derived.Test.YteninofjeidljaaGreatM15
import Derived.Test.YteninofjeidljaaGreatM9
import Derived.Deep.RegionHeld3
namespace Go.Proofs.YteninofjeidljaaGreat

open Go.RowKit

set_option linter.unusedVariables false

set_option linter.unusedSimpArgs false

theorem right_of {ts : List Tk} (hN : NamesP ts) {k : Nat} (hk : k < ts.length) (hne : ¬ (nodeAt ts k).name.size = 0) : (outAts ts k).all rightB = true := by
  rw [nodeAt_at hk] at hne
  have h := hN.2 k ts[k] (List.getElem?_eq_getElem hk)
  rcases h with h | ⟨h, _⟩
  · exact absurd h hne
  · cases q : (outAts ts k).all rightB with
    | true => rfl
    | false => rw [meanF_not q] at h; cases h

theorem canon_small {ts : List Tk} (hT : TreeP ts) (hz : TksSz 1048576 ts) (but : Int) (f k : Nat) (sd : List At) (hk : k < ts.length) : (canonN ts but f k sd).size ≤ 4000000000 := by
  have h1 := canon_size hT hz but f k sd hk
  have h2 := (endN_le hk).2
  have h50 : ts.length ≤ 50 := hT.2.1
  have h3 : 70000000 * (endN ts k - k) ≤ 70000000 * 50 := Nat.mul_le_mul_left _ (by omega)
  omega

theorem NewAts.rowX {w : World} {B B' : Nat} {a : Option Addr} {c : Nat} {l : List At} (h : NewAts w B a c l) (hB : B' ≤ B) : RowX (fun g => B' ≤ g) w a l := by
  refine ⟨h.row, fun g o h0 e => ?_⟩
  rcases h with ⟨rfl, rfl, rfl⟩ | ⟨g', rfl, h1, h2⟩
  · cases e
  · injection e with e
    injection e with e
    subst e
    exact Nat.le_trans hB h1

theorem KidsAt.widen {w : World} {B B' f : Nat} {a3 : Option Addr} {ss : List ByteArray} (h : KidsAt (fun g => B ≤ g) w f a3 ss) (hB : B' ≤ B) : KidsAt (fun g => B' ≤ g) w f a3 ss := fun i hi => by
  obtain ⟨g, o, u, q1, q2, q3, q4, q5⟩ := h i hi
  exact ⟨g, o, u, q1, Nat.le_trans hB q2, q3, q4, q5.keep (fun _ _ h => Nat.le_trans hB h) (Nat.le_refl _) (fun _ _ _ => rfl)⟩

theorem NewAts.mono {w : World} {B B' : Nat} {a : Option Addr} {c : Nat} {l : List At} (h : NewAts w B a c l) (hB : B' ≤ B) : NewAts w B' a c l := by
  rcases h with h | ⟨g', e, h1, h2⟩
  · exact .inl h
  · exact .inr ⟨g', e, Nat.le_trans hB h1, h2⟩

set_option maxRecDepth 8000 in
set_option maxHeartbeats 4000000 in
theorem cNode1 (ts : List Tk) (a : Option Addr) (cap : Nat) (but : Int) (f : Nat) (CN : NodeC ts a cap but f) (hN : NamesP ts) (hz : TksSz 1048576 ts) : NodeC ts a cap but (f + 1) := by
  intro k sd l2 pl F F2 C C2 w hR hk hf hb hpl hS hA hA2
  have hT := hN.1
  obtain ⟨gb, go, aa, ca, rfl, hgb, q0, q1, q2, q3, hra⟩ := hR k hk
  have hz' := nodeAt_sz hz k
  have h50 : ts.length ≤ 50 := hT.2.1
  have hra' : AtRow w aa (nodeAt ts k).attrs := by rw [nodeAt_at hk]; exact hra
  rw [← nodeAt_at hk] at q0 q1 q2 q3
  have hkn : (k : Int) < (ts.length : Int) := by omega
  have HB0 := hid (((Below.refl w.heap.size w).alloc (Nat.le_refl _) (.cells #[.slice (some ⟨gb, go, none⟩) ts.length cap, .int .i64 but] 105)))
  have CT := hid (fun wx => cIsText (nodeAt ts k).kind (nodeAt ts k).name aa (nodeAt ts k).attrs.length ca (nodeAt ts k).text wx hz'.1)
  have M0 := hid (heap_alloc_new w (.cells #[.slice (some ⟨gb, go, none⟩) ts.length cap, .int .i64 but] 105))
  have hs0 : (w.alloc (.cells #[.slice (some ⟨gb, go, none⟩) ts.length cap, .int .i64 but] 105)).heap.size = w.heap.size + 1 := by simp
  obtain ⟨w0, hw0⟩ : ∃ w0, w.alloc (.cells #[.slice (some ⟨gb, go, none⟩) ts.length cap, .int .i64 but] 105) = w0 := ⟨_, rfl⟩
  rw [hw0] at HB0 M0 hs0
  have p0 := (HB0.out.cell (p := ⟨gb, go + k * 4, none⟩) hgb).trans q0
  have p1 := (HB0.out.cell (p := ⟨gb, go + k * 4 + 1, none⟩) hgb).trans q1
  have p2 := (HB0.out.cell (p := ⟨gb, go + k * 4 + 2, none⟩) hgb).trans q2
  have p3 := (HB0.out.cell (p := ⟨gb, go + k * 4 + 3, none⟩) hgb).trans q3
  obtain ⟨⟨x0, x1⟩, _⟩ := box2e M0.out
  have HB1 := hid (HB0.out.alloc HB0.out.size (.cells #[.int .i64 (nodeAt ts k).kind, .string (nodeAt ts k).name, .slice aa (nodeAt ts k).attrs.length ca, .string (nodeAt ts k).text] 42))
  have M1 := hid (heap_alloc_new w0 (.cells #[.int .i64 (nodeAt ts k).kind, .string (nodeAt ts k).name, .slice aa (nodeAt ts k).attrs.length ca, .string (nodeAt ts k).text] 42))
  have MS := hid (blk_alloc M0.out (.cells #[.int .i64 (nodeAt ts k).kind, .string (nodeAt ts k).name, .slice aa (nodeAt ts k).attrs.length ca, .string (nodeAt ts k).text] 42))
  have HCS := hid (canon_small hT hz but (f + 1) k sd hk)
  have HW0 := hid hw0
  have HS0 := hid hs0
  by_cases hne : (nodeAt ts k).name.size = 0
  · have HTX := hid (canonN_text (f := f) (sd := sd) rfl hb hne)
    rw [decide_eq_true hne] at CT
    have HTZ := hid hz'.2.2.2
    clear hra hra' hz' hne CN hN hz hR hk hf hb hpl hS hA hA2 hT h50 q0 q1 q2 q3 hgb MS hs0 hw0
    generalize ts.length = n at *
    generalize (nodeAt ts k).kind = tk at *
    generalize (nodeAt ts k).name = tn at *
    generalize (nodeAt ts k).attrs.length = ta at *
    generalize (nodeAt ts k).text = tx at *
    have hw0 := HW0.out
    go_enter Tryz.func75, Tryz.ntmps75
    go_wp2_with fail
    refine (CT.out _).mono ?_
    rintro e w1 ⟨rfl, hb1⟩
    have HB2 := hid (bb HB1.out hb1)
    obtain ⟨⟨y0, y1, y2, y3⟩, _⟩ := box4 (blk_below M1.out hb1)
    clear hb1 CT hw0
    go_wp2_with fail
    go_ret
    exact ⟨_, rfl, ⟨HCS.out, .inl ⟨tx, rfl, HTZ.out, HTX.out⟩⟩, HB2.out⟩
  · have hr := right_of hN hk hne
    have h6 := six_at hT k hne
    obtain ⟨O, hO⟩ : ∃ O, sortG (ltA (outAts ts k)) ((nodeAt ts k).attrs.filter nodeclB) = O := ⟨_, rfl⟩
    obtain ⟨D, hD⟩ : ∃ D, dclP (outAts ts k) l2 (needL (nodeAt ts k).name O) = D := ⟨_, rfl⟩
    obtain ⟨ss, hss⟩ : ∃ ss, kidSS ts but f (saidL ts k sd (nodeAt ts k)) (kidsN ts k) = ss := ⟨_, rfl⟩
    have EI := el_is (f := f) hT hz rfl hb hne hr hS hO hD hss
    have ho : OrdB (ltA (outAts ts k)) := by rw [lt_ahead hr]; exact ahead_ord ts k
    have CNE := hid (fun wx (hbx : Below w.heap.size w wx) => cNearer aa ca (nodeAt ts k).attrs F C pl wx (hA.below hbx) (hra'.below hbx) hz'.2.2.1 hz'.2.1)
    rw [← hpl] at CNE
    have COT := hid (fun (C' : Array Value) wx (hbx : Below w.heap.size w wx) (hA' : Asks 154 C' wx (outAts ts k)) => cOtherAttrs aa ca (nodeAt ts k).attrs 154 C' (outAts ts k) wx ho hA' (hra'.below hbx) hz'.2.2.1 h6)
    rw [hO] at COT
    have CPR := hid (fun (ao : Option Addr) (co : Nat) wx (hr : AtRow wx ao O) => cNeeded (nodeAt ts k).name ao co O wx hr EI.osz EI.olen hz'.1)
    have CND := hid (fun (v : Value) (C' : Array Value) wx (hbx : Below w.heap.size w wx) (hrd : Rd wx 1 v (needL (nodeAt ts k).name O).length (keyV (needL (nodeAt ts k).name O))) (hA' : Asks 154 C' wx (outAts ts k)) => cNewDecl v (needL (nodeAt ts k).name O) 154 F2 C' C2 (outAts ts k) l2 wx hrd hA' (hA2.below hbx) EI.psz EI.plen)
    rw [hD] at CND
    have CN2 := hid (fun (ad : Option Addr) (cd : Nat) wx (hbx : Below w.heap.size w wx) (hrow : AtRow wx ad D) => cNearer ad cd D F2 C2 l2 wx (hA2.below hbx) hrow EI.dsz (by have := EI.dlen; omega))
    have CIN := hid (fun (C' C'' : Array Value) wx (hbx : Below w.heap.size w wx) (hA' : Asks 154 C' wx (outAts ts k)) (hA'' : Asks 154 C'' wx (D ++ l2)) => cInside ts (some ⟨gb, go, none⟩) cap but f CN hT hz k (saidL ts k sd (nodeAt ts k)) (D ++ l2) 154 154 C' C'' wx (hR.below hbx) hk (by omega) EI.said hA' hA'')
    rw [hss] at CIN
    have HSH := hid (show ∀ (ad : Option Addr) (cd : Nat) (ao : Option Addr) (co : Nat) (a3 : Option Addr) (c3 : Nat) (wx : World), NewAts wx w.heap.size ad cd D → NewAts wx w.heap.size ao co O → KidsAt (fun g => w.heap.size ≤ g) wx f a3 ss → ShAt (fun g => w.heap.size ≤ g) wx (f + 1) (.iface 150 (.agg #[.string (nodeAt ts k).name, .slice ad D.length cd, .slice ao O.length co, .slice a3 ss.length c3])) (canonN ts but (f + 1) k sd) from
      fun ad cd ao co a3 c3 wx h1 h2 h3 => ⟨HCS.out, .inr ⟨(nodeAt ts k).name, ad, cd, D, ao, co, O, a3, c3, ss, rfl, hz'.1, h1.rowX (Nat.le_refl _), EI.dsz, EI.dlen, h2.rowX (Nat.le_refl _), EI.osz, by have := EI.olen; omega, by
        rw [← hss]
        unfold kidSS
        rw [List.length_map]
        have g1 := List.length_filter_le (notB but) (kidsN ts k)
        have g2 := kidsTo_len ts k ts.length
        have g3 : (kidsN ts k).length ≤ ts.length := g2
        omega, h3, EI.text⟩⟩)
    rw [decide_eq_false hne] at CT
    clear EI hO hD hss ho h6 hr hra hra' hz' hne CN hN hz hR hk hf hb hpl hS hA hA2 hT h50 q0 q1 q2 q3 hgb hs0 hw0 HCS
    generalize canonN ts but (f + 1) k sd = RES at *
    generalize needL (nodeAt ts k).name O = ND at *
    generalize ts.length = n at *
    generalize (nodeAt ts k).kind = tk at *
    generalize (nodeAt ts k).name = tn at *
    generalize (nodeAt ts k).attrs.length = ta at *
    generalize (nodeAt ts k).text = tx at *
    generalize D.length = nD at *
    generalize O.length = nO at *
    generalize ss.length = nS at *
    have hw0 := HW0.out
    go_enter Tryz.func75, Tryz.ntmps75
    go_wp2_with fail
    refine (CT.out _).mono ?_
    rintro e w1 ⟨rfl, hb1⟩
    have HB2 := hid (bb HB1.out hb1)
    have M2 := hid (blk_below M1.out hb1)
    have MS2 := hid (blk_below MS.out hb1)
    obtain ⟨⟨y0, y1, y2, y3⟩, _⟩ := box4 M2.out
    clear hb1 CT hw0 p0 p1 p2 p3 x0 x1 HB0 HB1 M0 M1 MS
    go_wp2_with fail
    refine (CNE.out _ HB2.out).mono ?_
    rintro e w2 ⟨C', rfl, hA3, hb3⟩
    have HB3 := hid (bb HB2.out hb3)
    have M3 := hid (blk_below M2.out hb3)
    have MS3 := hid (blk_below MS2.out hb3)
    have HA3 := hid hA3
    clear hA3 hb3 y0 y1 y2 y3 M2 MS2 HB2 CNE
    obtain ⟨⟨y0, y1, y2, y3⟩, _⟩ := box4 M3.out
    go_wp2_with fail
    refine (COT.out _ _ HB3.out HA3.out).mono ?_
    rintro e w3 ⟨ao, co, rfl, hno, hb4⟩
    have HB4 := hid (bb HB3.out hb4)
    have M4 := hid (blk_below M3.out hb4)
    have MS4 := hid (blk_below MS3.out hb4)
    have HA4 := hid (HA3.out.below hb4)
    have HNO := hid (hno.mono HB3.out.size)
    clear hno hb4 y0 y1 y2 y3 M3 MS3 HB3 HA3 COT
    obtain ⟨⟨y0, y1, y2, y3⟩, _⟩ := box4 M4.out
    go_wp2_with fail
    refine (CPR.out ao co _ HNO.out.row).mono ?_
    rintro e w4 ⟨vp, rfl, hrd, hb5⟩
    have HB5 := hid (bb HB4.out hb5)
    have M5 := hid (blk_below M4.out hb5)
    have MS5 := hid (blk_below MS4.out hb5)
    have HA5 := hid (HA4.out.below hb5)
    have HNO5 := hid (HNO.out.below hb5)
    have HRD := hid hrd
    clear hrd hb5 y0 y1 y2 y3 M4 MS4 HB4 HA4 HNO CPR
    go_wp2_with fail
    refine (CND.out vp _ _ HB5.out HRD.out HA5.out).mono ?_
    rintro e w5 ⟨ad, cd, rfl, hnd, hb6⟩
    have HB6 := hid (bb HB5.out hb6)
    have M6 := hid (blk_below M5.out hb6)
    have MS6 := hid (blk_below MS5.out hb6)
    have HA6 := hid (HA5.out.below hb6)
    have HNO6 := hid (HNO5.out.below hb6)
    have HND := hid (hnd.mono HB5.out.size)
    clear hnd hb6 M5 MS5 HB5 HA5 HNO5 HRD CND
    go_wp2_with fail
    have HBc := hid ((Below.refl w5.heap.size w5).drew)
    have HSX := hid (show ∀ W', Below w5.heap.size w5 W' → W'.cell? ⟨w.heap.size, 0, none⟩ = some (.slice (some ⟨gb, go, none⟩) n cap) ∧ W'.cell? ⟨w.heap.size, 1, none⟩ = some (.int .i64 but) from fun W' hb => (box2e (blk_below MS6.out hb)).1)
    go_region_held3 (fun w' => w'.cell? ⟨w.heap.size, 0, none⟩ = some (.slice (some ⟨gb, go, none⟩) n cap) ∧ w'.cell? ⟨w.heap.size, 1, none⟩ = some (.int .i64 but)) (exact HSX.out _ HBc.out)
      (first
        | (go_at_call 118; refine (CN2.out ad cd _ (bb HB6.out HBc.out) (HND.out.row.below HBc.out)).mono ?_; rintro e w6 ⟨C'', rfl, hA7, hb7⟩; have HA7 := hid hA7; replace HBc := hid (bb HBc.out hb7); clear hA7 hb7)
        | (go_at_call 123; refine (CIN.out _ _ _ (bb HB6.out HBc.out) (HA6.out.below HBc.out) HA7.out).mono ?_; rintro e w7 ⟨a3, c3, rfl, hk3, hb8⟩; have HK3 := hid (show KidsAt (fun g => w.heap.size ≤ g) w7 f a3 ss from hk3.widen (bb HB6.out HBc.out).size); replace HBc := hid (bb HBc.out hb8); clear hk3 hb8))
    obtain ⟨⟨y0, y1, y2, y3⟩, _⟩ := box4 (blk_below M6.out HBc.out)
    have HB9 := hid (bb HB6.out HBc.out)
    have HFIN := hid (HSH.out ad cd ao co a3 c3 _ (HND.out.below HBc.out) (HNO6.out.below HBc.out) HK3.out)
    clear HBc
    go_wp2_with fail
    go_ret
    exact ⟨_, rfl, HFIN.out, HB9.out⟩

end Go.Proofs.YteninofjeidljaaGreat

namespace Go.Proofs.YteninofjeidljaaGreat

open Go.RowKit

set_option linter.unusedVariables false

/-- The attrs that are written of an element: what is said anew, then the others. -/
noncomputable def attC (ts : List Tk) (k : Nat) (sd : List At) : List At := ((newF ts k sd (preL7 (nodeAt ts k).name (nodeAt ts k).attrs)).map fun p => (⟨nmD p, mnF ts k p⟩ : At)) ++ othL ts k (nodeAt ts k).attrs

/-- What is written, as tokens. -/
noncomputable def tokC (ts : List Tk) : Nat → Nat → List At → List Tk
  | 0, _, _ => []
  | f + 1, k, sd => if (nodeAt ts k).name.size = 0 then [txT (nodeAt ts k)] else (⟨1, (nodeAt ts k).name, attC ts k sd, ⟨#[]⟩⟩ : Tk) :: ((kidsN ts k).flatMap (fun j => tokC ts f j (saidL ts k sd (nodeAt ts k))) ++ [clT (nodeAt ts k)])

theorem mean_plain {ts : List Tk} {k : Nat} (hr : (outAts ts k).all rightB = true) (p : ByteArray) : plainL (mnF ts k p).data.toList = true := by
  have h := mean_signs hr p
  have key : ∀ n : Fin 256, (sgnS.data.toList.any fun d => decide (d = UInt8.ofNat n.val)) = true → plainB (UInt8.ofNat n.val).toNat = true := by decide +kernel
  unfold plainL
  rw [List.all_eq_true] at h ⊢
  intro c hc
  have e : UInt8.ofNat c.toNat = c := by simp
  have := key ⟨c.toNat, c.toNat_lt⟩
  simp only [e] at this
  exact this (h c hc)

theorem atsS_two : ∀ (l m : List At) (s : ByteArray), atsS (l ++ m) s = atsS m (atsS l s)
  | [], m, s => rfl
  | x :: l, m, s => by
    show atsS (l ++ m) (s ++ atS x) = _
    rw [atsS_two l m]
    rfl

/-- The attrs of a right element. -/
theorem el_attrs {ts : List Tk} (hT : TreeP ts) {k : Nat} (hk : k < ts.length) (hne : ¬ (nodeAt ts k).name.size = 0) : nameL (nodeAt ts k).name.data.toList = true ∧ ∀ x ∈ (nodeAt ts k).attrs, (∀ y ∈ x.name.data.toList, nameSign y) ∧ plainL x.value.data.toList = true := by
  obtain ⟨⟨h1, h2⟩, _⟩ := hT.2.2.2.2 k hk
  rw [nodeAt_at hk] at hne ⊢
  unfold nodeB at h2
  rw [if_neg hne] at h2
  simp only [Bool.and_eq_true] at h2
  refine ⟨h2.1, attrs_signs ?_⟩
  by_cases q : AttrsOk ts[k].attrs
  · exact q
  · rw [attrsB_f q] at h2
    cases h2.2.1

theorem oth_mem {ts : List Tk} {k : Nat} {l : List At} {x : At} (h : x ∈ othL ts k l) : x ∈ l := by
  rw [oth_sort] at h
  exact (List.mem_filter.1 (((sort_all (ahead_ord ts k) _).2.2 x).1 h)).1

theorem attC_plain {ts : List Tk} (hN : NamesP ts) {k : Nat} (hk : k < ts.length) (hne : ¬ (nodeAt ts k).name.size = 0) (sd : List At) : ∀ x ∈ attC ts k sd, plainL x.value.data.toList = true := by
  intro x hx
  rcases List.mem_append.1 hx with h | h
  · obtain ⟨p, _, rfl⟩ := List.mem_map.1 h
    exact mean_plain (right_of hN hk hne) p
  · exact ((el_attrs hN.1 hk hne).2 x (oth_mem h)).2

theorem head_list {ts : List Tk} (hN : NamesP ts) {k : Nat} (hk : k < ts.length) (hne : ¬ (nodeAt ts k).name.size = 0) (sd : List At) : (headS ts k sd (nodeAt ts k)).data.toList = showL ⟨1, (nodeAt ts k).name, attC ts k sd, ⟨#[]⟩⟩ := by
  have hr := right_of hN hk hne
  obtain ⟨c1, _⟩ := pre_strict (nodeAt ts k).name (nodeAt ts k).attrs
  have hnd : (preL7 (nodeAt ts k).name (nodeAt ts k).attrs).Nodup := c1.imp fun {a b} h e => by rw [e, ltB_irr] at h; cases h
  unfold headS
  rw [dcl_flat ts k _ sd _ hnd]
  show (atsS (othL ts k (nodeAt ts k).attrs) ((newF ts k sd (preL7 (nodeAt ts k).name (nodeAt ts k).attrs)).foldl (fun s p => dclS s p (mnF ts k p)) ((⟨#[60]⟩ : ByteArray) ++ (nodeAt ts k).name)) ++ ⟨#[62]⟩).data.toList = _
  rw [fold_dcl hr, ← atsS_two, app_list]
  show (atsS (attC ts k sd) _).data.toList ++ _ = _
  rw [atsS_list _ (attC_plain hN hk hne sd), app_list]
  unfold showL
  simp

theorem catL_list : ∀ ss : List ByteArray, (catL ss).data.toList = ss.flatMap fun s => s.data.toList := by
  have key : ∀ (ss : List ByteArray) (s : ByteArray), (ss.foldl (fun s x => s ++ x) s).data.toList = s.data.toList ++ ss.flatMap fun s => s.data.toList := by
    intro ss
    induction ss with
    | nil => intro s; simp
    | cons x ss ih => intro s; rw [List.foldl_cons, ih, app_list, List.flatMap_cons, List.append_assoc]
  intro ss
  unfold catL
  rw [key]
  simp

/-- What is written are those tokens, shown. -/
theorem canon_toks {ts : List Tk} (hN : NamesP ts) : ∀ f k sd, k < ts.length → (canonN ts (-1) f k sd).data.toList = (tokC ts f k sd).flatMap showL
  | 0, k, sd, _ => rfl
  | f + 1, k, sd, hk => by
    by_cases hn : (nodeAt ts k).name.size = 0
    · rw [canonN_text rfl (by omega) hn]
      unfold tokC
      rw [if_pos hn, List.flatMap_cons, List.flatMap_nil, List.append_nil]
      obtain ⟨⟨h1, h2⟩, _⟩ := hN.1.2.2.2.2 k hk
      rw [nodeAt_at hk] at hn ⊢
      unfold nodeB at h2
      rw [if_pos hn] at h2
      unfold textB at h2
      simp only [Bool.and_eq_true] at h2
      unfold escS escapedL
      rw [if_pos h2.2.1]
      rfl
    · rw [canonN_el rfl (by omega) hn, fold_cat _ (-1) _ _ (fun j hj => absurd hj (by omega)), List.filter_eq_self.2 (fun x _ => by unfold notB; rw [decide_eq_false (by omega)]; rfl)]
      unfold tokC
      rw [if_neg hn, List.flatMap_cons, List.flatMap_append, List.flatMap_cons, List.flatMap_nil, List.append_nil]
      rw [app_list, app_list, app_list, app_list, head_list hN hk hn, catL_list, List.flatMap_map, List.flatMap_assoc]
      have e : ((kidsN ts k).flatMap fun j => (canonN ts (-1) f j (saidL ts k sd (nodeAt ts k))).data.toList) = (kidsN ts k).flatMap fun j => (tokC ts f j (saidL ts k sd (nodeAt ts k))).flatMap showL := by
        have key : ∀ l : List Nat, (∀ j ∈ l, j < ts.length) → (l.flatMap fun j => (canonN ts (-1) f j (saidL ts k sd (nodeAt ts k))).data.toList) = l.flatMap fun j => (tokC ts f j (saidL ts k sd (nodeAt ts k))).flatMap showL := by
          intro l
          induction l with
          | nil => intro _; rfl
          | cons j l ih => intro hl; rw [List.flatMap_cons, List.flatMap_cons, canon_toks hN f j _ (hl j (by simp)), ih fun i hi => hl i (by simp [hi])]
        exact key _ fun j hj => kidsN_lt hj
      rw [e]
      have e2 : showL (clT (nodeAt ts k)) = [60, 47] ++ ((nodeAt ts k).name.data.toList ++ [62]) := by
        unfold showL clT
        simp
      rw [e2]
      simp only [List.append_assoc]

end Go.Proofs.YteninofjeidljaaGreat

namespace Go.Proofs.YteninofjeidljaaGreat

set_option linter.unusedVariables false

/-- What has grown so far: the nodes, the one that is open, whether the first is closed. -/
structure GSt where
  out : List Tk
  at_ : Int
  done : Bool

noncomputable def gStep (s : GSt) (k : Tk) : Option GSt :=
  if tokB k = false ∨ s.done = true then none
  else if k.kind = 1 then some ⟨s.out ++ [⟨s.at_, k.name, k.attrs, ⟨#[]⟩⟩], (s.out.length : Int), false⟩
  else if k.kind = 3 then some ⟨s.out ++ [⟨s.at_, ⟨#[]⟩, [], k.text⟩], s.at_, false⟩
  else if s.at_ < 0 ∨ ¬ (nodeAt s.out s.at_.toNat).name = k.name then none
  else some ⟨s.out, parI s.out s.at_.toNat, decide (s.at_ = 0)⟩

noncomputable def gRun : List Tk → GSt → Option GSt
  | [], s => some s
  | k :: l, s => (gStep s k).bind (gRun l)

/-- The tree that grows from these tokens. -/
noncomputable def grownT (l : List Tk) : Option (List Tk) :=
  match gRun l ⟨[], -1, false⟩ with
  | none => none
  | some s => if s.done = true ∧ treeB s.out = true then some s.out else none

/-- Parents stand ahead, and the open one is there. -/
structure GInv (s : GSt) : Prop where
  lo : -1 ≤ s.at_
  hi : s.at_ < s.out.length
  par : ∀ j (h : j < s.out.length), -1 ≤ s.out[j].kind ∧ s.out[j].kind < j

theorem GInv.start : GInv ⟨[], -1, false⟩ := ⟨by show (-1 : Int) ≤ -1; omega, by show (-1 : Int) < 0; omega, fun j h => absurd h (Nat.not_lt_zero _)⟩

theorem GInv.snoc {s : GSt} (h : GInv s) (t : Tk) (ht : t.kind = s.at_) (a : Int) (d : Bool) (h1 : -1 ≤ a) (h2 : a < s.out.length + 1) : GInv ⟨s.out ++ [t], a, d⟩ := by
  refine ⟨h1, by show a < ((s.out ++ [t]).length : Int); rw [List.length_append]; simpa using h2, fun j hj => ?_⟩
  have hj : j < (s.out ++ [t]).length := hj
  show -1 ≤ (s.out ++ [t])[j].kind ∧ (s.out ++ [t])[j].kind < j
  rw [List.length_append, List.length_singleton] at hj
  rcases Nat.lt_or_ge j s.out.length with h' | h'
  · rw [List.getElem_append_left h']
    exact h.par j h'
  · have e : j = s.out.length := by omega
    subst e
    rw [List.getElem_append_right (Nat.le_refl _)]
    simp only [Nat.sub_self, List.getElem_singleton]
    rw [ht]
    exact ⟨h.lo, h.hi⟩

theorem GInv.up {s : GSt} (h : GInv s) (h0 : ¬ s.at_ < 0) (d : Bool) : GInv ⟨s.out, parI s.out s.at_.toNat, d⟩ := by
  have hk : s.at_.toNat < s.out.length := by have := h.hi; omega
  have := h.par _ hk
  refine ⟨?_, ?_, h.par⟩
  · show -1 ≤ parI s.out s.at_.toNat
    rw [parI_at hk]
    exact this.1
  · show parI s.out s.at_.toNat < s.out.length
    rw [parI_at hk]
    omega

theorem gRun_bad {l : List Tk} {s : GSt} {k : Tk} (h : gStep s k = none) : gRun (k :: l) s = none := by
  show (gStep s k).bind (gRun l) = none
  rw [h]
  rfl

theorem gRun_step {l : List Tk} {s s' : GSt} {k : Tk} (h : gStep s k = some s') : gRun (k :: l) s = gRun l s' := by
  show (gStep s k).bind (gRun l) = _
  rw [h]
  rfl

theorem gStep_one {s : GSt} {k : Tk} (h1 : tokB k = true) (h2 : s.done = false) (h3 : k.kind = 1) : gStep s k = some ⟨s.out ++ [⟨s.at_, k.name, k.attrs, ⟨#[]⟩⟩], (s.out.length : Int), false⟩ := by
  unfold gStep
  rw [if_neg (by rw [h1, h2]; simp), if_pos h3]

theorem gStep_three {s : GSt} {k : Tk} (h1 : tokB k = true) (h2 : s.done = false) (h3 : k.kind = 3) : gStep s k = some ⟨s.out ++ [⟨s.at_, ⟨#[]⟩, [], k.text⟩], s.at_, false⟩ := by
  unfold gStep
  rw [if_neg (by rw [h1, h2]; simp), if_neg (by omega), if_pos h3]

theorem gStep_two {s : GSt} {k : Tk} (h1 : tokB k = true) (h2 : s.done = false) (h3 : k.kind = 2) (h4 : ¬ s.at_ < 0) (h5 : (nodeAt s.out s.at_.toNat).name = k.name) : gStep s k = some ⟨s.out, parI s.out s.at_.toNat, decide (s.at_ = 0)⟩ := by
  unfold gStep
  rw [if_neg (by rw [h1, h2]; simp), if_neg (by omega), if_neg (by omega), if_neg (by rintro (h | h) <;> contradiction)]

theorem gStep_no {s : GSt} {k : Tk} (h : tokB k = false ∨ s.done = true) : gStep s k = none := by
  unfold gStep
  exact if_pos h

theorem gStep_no2 {s : GSt} {k : Tk} (h3 : k.kind = 2) (h : s.at_ < 0 ∨ ¬ (nodeAt s.out s.at_.toNat).name = k.name) : gStep s k = none := by
  unfold gStep
  by_cases q : tokB k = false ∨ s.done = true
  · exact if_pos q
  · rw [if_neg q, if_neg (by omega), if_neg (by omega), if_pos h]

theorem grownT_none {l : List Tk} (h : gRun l ⟨[], -1, false⟩ = none) : grownT l = none := by unfold grownT; rw [h]

theorem grownT_end {l : List Tk} {s : GSt} (h : gRun l ⟨[], -1, false⟩ = some s) : grownT l = if s.done = true ∧ treeB s.out = true then some s.out else none := by unfold grownT; rw [h]

end Go.Proofs.YteninofjeidljaaGreat

namespace Go.Proofs.YteninofjeidljaaGreat

set_option linter.unusedVariables false

theorem ba_empty {s : ByteArray} (h : s.size = 0) : s = ⟨#[]⟩ := by
  apply ByteArray.ext
  exact Array.eq_empty_of_size_eq_zero h

theorem node_el {ts : List Tk} (h : TreeP ts) {k : Nat} (hk : k < ts.length) (he : ¬ ts[k].name.size = 0) : ts[k] = ⟨parI ts k, ts[k].name, ts[k].attrs, ⟨#[]⟩⟩ ∧ tokB (opT ts[k]) = true ∧ tokB (clT ts[k]) = true := by
  obtain ⟨⟨_, hb⟩, _⟩ := h.2.2.2.2 k hk
  rw [nodeB_el he] at hb
  simp only [Bool.and_eq_true, decide_eq_true_eq] at hb
  obtain ⟨h1, h2, h3⟩ := hb
  refine ⟨?_, ?_, ?_⟩
  · rw [parI_at hk]
    have := ba_empty h3
    cases e : ts[k] with
    | mk a b c d =>
      rw [e] at this
      simp only at this
      rw [this]
  · unfold tokB opT
    simp [h1, h2, show (⟨#[]⟩ : ByteArray).size = 0 from rfl]
  · unfold tokB clT
    simp [h1, show (⟨#[]⟩ : ByteArray).size = 0 from rfl]

theorem node_tx {ts : List Tk} (h : TreeP ts) {k : Nat} (hk : k < ts.length) (he : ts[k].name.size = 0) : ts[k] = ⟨parI ts k, ⟨#[]⟩, [], ts[k].text⟩ ∧ tokB (txT ts[k]) = true ∧ endN ts k = k + 1 ∧ ¬ k = 0 := by
  obtain ⟨⟨_, hb⟩, _⟩ := h.2.2.2.2 k hk
  rw [nodeB_tx he] at hb
  simp only [Bool.and_eq_true, decide_eq_true_eq] at hb
  obtain ⟨h1, h2⟩ := hb
  refine ⟨?_, ?_, ?_, fun e => ?_⟩
  · rw [parI_at hk]
    have e1 := ba_empty he
    have e2 : ts[k].attrs = [] := List.eq_nil_of_length_eq_zero h1
    cases e : ts[k] with
    | mk a b c d =>
      rw [e] at e1 e2
      simp only at e1 e2
      rw [e1, e2]
  · unfold tokB txT
    simp [h2, show (⟨#[]⟩ : ByteArray).size = 0 from rfl]
  · have hle := endN_le hk
    rcases Nat.lt_or_eq_of_le (show k + 1 ≤ endN ts k by omega) with h' | h'
    · exfalso
      have hp := first_kid h hk h'
      rcases h.up (k + 1) (by omega) with h0 | ⟨p, _, e, hpn, hne⟩
      · omega
      · have : p = k := by omega
        subst this
        exact hne he
    · exact h'.symm
  · subst e
    obtain ⟨_, hne⟩ := h.2.2.2.1
    exact hne he

theorem kidsTo_from {ts : List Tk} {k e : Nat} (he : k < e) : kidsTo ts k e = kidsFrom ts k (k + 1) e := by
  unfold kidsTo kidsFrom
  have e1 : List.range e = List.range' 0 (k + 1) ++ List.range' (k + 1) (e - (k + 1)) := by
    have := List.range'_append_1 (s := 0) (m := k + 1) (n := e - (k + 1))
    rw [Nat.zero_add, show k + 1 + (e - (k + 1)) = e by omega] at this
    rw [this, List.range_eq_range']
  rw [e1, List.filter_append]
  have e2 : (List.range' 0 (k + 1)).filter (fun i => decide (k < i) && decide (parI ts i = (k : Int))) = [] := by
    rw [List.filter_eq_nil_iff]
    intro i hi
    rw [List.mem_range'_1] at hi
    simp
    omega
  rw [e2, List.nil_append]
  refine List.filter_congr fun i hi => ?_
  rw [List.mem_range'_1] at hi
  have : decide (k < i) = true := decide_eq_true (by omega)
  rw [this, Bool.true_and]

theorem take_node {ts : List Tk} {k : Nat} (hk : k < ts.length) {t : Tk} (h : ts[k] = t) : ts.take k ++ [t] = ts.take (k + 1) := by rw [take_snocN hk, h]

/-- What a node has been told as grows again. -/
theorem grow_sub {ts : List Tk} (h : TreeP ts) : ∀ f k, k < ts.length → ts.length - k ≤ f → ∀ rest, gRun (tokN ts f k ++ rest) ⟨ts.take k, parI ts k, false⟩ = gRun rest ⟨ts.take (endN ts k), parI ts k, decide (k = 0)⟩
  | 0, k, hk, hf, rest => by omega
  | f + 1, k, hk, hf, rest => by
    have hle := endN_le hk
    have hlk : (ts.take k).length = k := by rw [List.length_take]; omega
    unfold tokN
    rw [nodeAt_at hk]
    by_cases he : ts[k].name.size = 0
    · obtain ⟨n1, n2, n3, n4⟩ := node_tx h hk he
      rw [if_pos he, List.singleton_append, gRun_step (gStep_three n2 rfl rfl), n3]
      simp only [txT]
      rw [take_node hk n1, show decide (k = 0) = false from decide_eq_false n4]
    · obtain ⟨n1, n2, n3⟩ := node_el h hk he
      rw [if_neg he, List.cons_append, gRun_step (gStep_one n2 rfl rfl)]
      simp only [opT]
      rw [take_node hk n1, hlk, List.append_assoc]
      have key : ∀ d e i, endN ts k - e ≤ d → FamAt ts k i e → ∀ rest, gRun ((kidsFrom ts k e (endN ts k)).flatMap (tokN ts f) ++ rest) ⟨ts.take e, (k : Int), false⟩ = gRun rest ⟨ts.take (endN ts k), (k : Int), false⟩ := by
        intro d
        induction d with
        | zero =>
          intro e i hd fa rest
          have : e = endN ts k := by have := fa.hi; omega
          rw [this, kidsFrom_none (fun i g1 g2 => by omega)]
          rfl
        | succ d ih =>
          intro e i hd fa rest
          rcases Nat.lt_or_eq_of_le fa.hi with h' | h'
          · have hlo := fa.lo
            have hp := fa.kid h'
            have hel := endN_le (ts := ts) (k := e) (by omega)
            have hi : i < (kidsN ts k).length := by
              rcases Nat.lt_or_ge i (kidsN ts k).length with q | q
              · exact q
              · exfalso
                have hr := fa.rest
                rw [List.drop_of_length_le q, fam_one h hk hlo h' hp] at hr
                cases hr
            have st := (fa.step h hk hi).2.2.2
            rw [fam_one h hk hlo h' hp, List.flatMap_cons, List.append_assoc]
            have := grow_sub h f e (by omega) (by omega) ((kidsFrom ts k (endN ts e) (endN ts k)).flatMap (tokN ts f) ++ rest)
            rw [hp, show decide (e = 0) = false from decide_eq_false (by omega)] at this
            rw [this]
            exact ih (endN ts e) (i + 1) (by omega) st rest
          · rw [h', kidsFrom_none (fun i g1 g2 => by omega)]
            rfl
      rw [kidsTo_from hle.1, key (endN ts k - (k + 1)) (k + 1) 0 (Nat.le_refl _) (fam_start h hk), List.singleton_append]
      have hkt : k < (ts.take (endN ts k)).length := by rw [List.length_take]; omega
      have hna : nodeAt (ts.take (endN ts k)) k = ts[k] := by rw [nodeAt_at hkt, List.getElem_take]
      have hpa : parI (ts.take (endN ts k)) k = parI ts k := by rw [parI_at hkt, parI_at hk, List.getElem_take]
      rw [gRun_step (gStep_two n3 rfl rfl (by show ¬ (k : Int) < 0; omega) (by show (nodeAt (ts.take (endN ts k)) (k : Int).toNat).name = ts[k].name; rw [Int.toNat_natCast, hna]))]
      simp only [Int.toNat_natCast]
      rw [hpa, show decide ((k : Int) = 0) = decide (k = 0) from by rw [decide_eq_decide]; omega]

theorem tree_end {ts : List Tk} (h : TreeP ts) : endN ts 0 = ts.length := by
  have h1 := h.1
  refine endN_is (by omega) (Nat.le_refl _) (fun j g1 g2 => ?_) (.inl rfl)
  rcases h.up j g2 with h0 | ⟨p, _, e, _⟩
  · omega
  · rw [← e]
    omega

/-- Grown of TokensOf is the tree. -/
theorem grown_toks {ts : List Tk} (h : TreeP ts) : grownT (tokN ts ts.length 0) = some ts := by
  have h1 := h.1
  have e := grow_sub h ts.length 0 (by omega) (by omega) []
  rw [List.append_nil, h.2.2.1, tree_end h, List.take_zero, List.take_length] at e
  have e2 : gRun [] ⟨ts, -1, decide (0 = 0)⟩ = some ⟨ts, -1, true⟩ := rfl
  rw [e2] at e
  rw [grownT_end e]
  exact if_pos ⟨rfl, treeB_t h⟩

end Go.Proofs.YteninofjeidljaaGreat
