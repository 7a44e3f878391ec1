/- A node as a shape: contract of (shaper).node. In whatever order attrs stand, and with a declaration that nobody needs, it is written the same (mathematics alone). Contract of the draw DrawSameCanon, and of DrawCanonAll with what names there are. -/
import Derived.Test.YtmghipjpgoghlaaGreatM33
import Derived.Test.YtmghipjpgoghlaaGreatM27
import Derived.Test.YtmghipjpgoghlaaGreatM32
import Derived.Test.YtmghipjpgoghlaaGreatM17
import Derived.Deep.RegionHeld3
namespace Go.Proofs.YtmghipjpgoghlaaGreat
open Go.RowKit
set_option linter.unusedVariables false
set_option linter.unusedSimpArgs false

theorem right_of {ts : List Tk} (hN : NamesP ts) {k : Nat} (hk : k < ts.length) (hne : ¬ (nodeAt ts k).name.size = 0) : (outAts ts k).all rightB = true := by
  rw [nodeAt_at hk] at hne
  have h := hN.2 k ts[k] (List.getElem?_eq_getElem hk)
  rcases h with h | ⟨h, _⟩
  · exact absurd h hne
  · cases q : (outAts ts k).all rightB with
    | true => rfl
    | false => rw [meanF_not q] at h; cases h

theorem canon_small {ts : List Tk} (hT : TreeP ts) (hz : TksSz 1048576 ts) (but : Int) (f k : Nat) (sd : List At) (hk : k < ts.length) : (canonN ts but f k sd).size ≤ 4000000000 := by
  have h1 := canon_size hT hz but f k sd hk
  have h2 := (endN_le hk).2
  have h50 : ts.length ≤ 50 := hT.2.1
  have h3 : 70000000 * (endN ts k - k) ≤ 70000000 * 50 := Nat.mul_le_mul_left _ (by omega)
  omega

theorem NewAts.rowX {w : World} {B B' : Nat} {a : Option Addr} {c : Nat} {l : List At} (h : NewAts w B a c l) (hB : B' ≤ B) : RowX (fun g => B' ≤ g) w a l := by
  refine ⟨h.row, fun g o h0 e => ?_⟩
  rcases h with ⟨rfl, rfl, rfl⟩ | ⟨g', rfl, h1, h2⟩
  · cases e
  · injection e with e
    injection e with e
    subst e
    exact Nat.le_trans hB h1

theorem KidsAt.widen {w : World} {B B' f : Nat} {a3 : Option Addr} {ss : List ByteArray} (h : KidsAt (fun g => B ≤ g) w f a3 ss) (hB : B' ≤ B) : KidsAt (fun g => B' ≤ g) w f a3 ss := fun i hi => by
  obtain ⟨g, o, u, q1, q2, q3, q4, q5⟩ := h i hi
  exact ⟨g, o, u, q1, Nat.le_trans hB q2, q3, q4, q5.keep (fun _ _ h => Nat.le_trans hB h) (Nat.le_refl _) (fun _ _ _ => rfl)⟩

theorem NewAts.mono {w : World} {B B' : Nat} {a : Option Addr} {c : Nat} {l : List At} (h : NewAts w B a c l) (hB : B' ≤ B) : NewAts w B' a c l := by
  rcases h with h | ⟨g', e, h1, h2⟩
  · exact .inl h
  · exact .inr ⟨g', e, Nat.le_trans hB h1, h2⟩

set_option maxRecDepth 8000 in
set_option maxHeartbeats 4000000 in
theorem cNode1 (ts : List Tk) (a : Option Addr) (cap : Nat) (but : Int) (f : Nat) (CN : NodeC ts a cap but f) (hN : NamesP ts) (hz : TksSz 1048576 ts) : NodeC ts a cap but (f + 1) := by
  intro k sd l2 pl F F2 C C2 w hR hk hf hb hpl hS hA hA2
  have hT := hN.1
  obtain ⟨gb, go, aa, ca, rfl, hgb, q0, q1, q2, q3, hra⟩ := hR k hk
  have hz' := nodeAt_sz hz k
  have h50 : ts.length ≤ 50 := hT.2.1
  have hra' : AtRow w aa (nodeAt ts k).attrs := by rw [nodeAt_at hk]; exact hra
  rw [← nodeAt_at hk] at q0 q1 q2 q3
  have hkn : (k : Int) < (ts.length : Int) := by omega
  have HB0 := hid (((Below.refl w.heap.size w).alloc (Nat.le_refl _) (.cells #[.slice (some ⟨gb, go, none⟩) ts.length cap, .int .i64 but] 68)))
  have CT := hid (fun wx => cIsText (nodeAt ts k).kind (nodeAt ts k).name aa (nodeAt ts k).attrs.length ca (nodeAt ts k).text wx hz'.1)
  have M0 := hid (heap_alloc_new w (.cells #[.slice (some ⟨gb, go, none⟩) ts.length cap, .int .i64 but] 68))
  have hs0 : (w.alloc (.cells #[.slice (some ⟨gb, go, none⟩) ts.length cap, .int .i64 but] 68)).heap.size = w.heap.size + 1 := by simp
  obtain ⟨w0, hw0⟩ : ∃ w0, w.alloc (.cells #[.slice (some ⟨gb, go, none⟩) ts.length cap, .int .i64 but] 68) = w0 := ⟨_, rfl⟩
  rw [hw0] at HB0 M0 hs0
  have p0 := (HB0.out.cell (p := ⟨gb, go + k * 4, none⟩) hgb).trans q0
  have p1 := (HB0.out.cell (p := ⟨gb, go + k * 4 + 1, none⟩) hgb).trans q1
  have p2 := (HB0.out.cell (p := ⟨gb, go + k * 4 + 2, none⟩) hgb).trans q2
  have p3 := (HB0.out.cell (p := ⟨gb, go + k * 4 + 3, none⟩) hgb).trans q3
  obtain ⟨⟨x0, x1⟩, _⟩ := box2e M0.out
  have HB1 := hid (HB0.out.alloc HB0.out.size (.cells #[.int .i64 (nodeAt ts k).kind, .string (nodeAt ts k).name, .slice aa (nodeAt ts k).attrs.length ca, .string (nodeAt ts k).text] 33))
  have M1 := hid (heap_alloc_new w0 (.cells #[.int .i64 (nodeAt ts k).kind, .string (nodeAt ts k).name, .slice aa (nodeAt ts k).attrs.length ca, .string (nodeAt ts k).text] 33))
  have MS := hid (blk_alloc M0.out (.cells #[.int .i64 (nodeAt ts k).kind, .string (nodeAt ts k).name, .slice aa (nodeAt ts k).attrs.length ca, .string (nodeAt ts k).text] 33))
  have HCS := hid (canon_small hT hz but (f + 1) k sd hk)
  have HW0 := hid hw0
  have HS0 := hid hs0
  by_cases hne : (nodeAt ts k).name.size = 0
  · have HTX := hid (canonN_text (f := f) (sd := sd) rfl hb hne)
    rw [decide_eq_true hne] at CT
    have HTZ := hid hz'.2.2.2
    clear hra hra' hz' hne CN hN hz hR hk hf hb hpl hS hA hA2 hT h50 q0 q1 q2 q3 hgb MS hs0 hw0
    generalize ts.length = n at *
    generalize (nodeAt ts k).kind = tk at *
    generalize (nodeAt ts k).name = tn at *
    generalize (nodeAt ts k).attrs.length = ta at *
    generalize (nodeAt ts k).text = tx at *
    have hw0 := HW0.out
    go_enter Tryz.func39, Tryz.ntmps39
    go_wp2_with fail
    refine (CT.out _).mono ?_
    rintro e w1 ⟨rfl, hb1⟩
    have HB2 := hid (bb HB1.out hb1)
    obtain ⟨⟨y0, y1, y2, y3⟩, _⟩ := box4 (blk_below M1.out hb1)
    clear hb1 CT hw0
    go_wp2_with fail
    go_ret
    exact ⟨_, rfl, ⟨HCS.out, .inl ⟨tx, rfl, HTZ.out, HTX.out⟩⟩, HB2.out⟩
  · have hr := right_of hN hk hne
    have h6 := six_at hT k hne
    obtain ⟨O, hO⟩ : ∃ O, sortG (ltA (outAts ts k)) ((nodeAt ts k).attrs.filter nodeclB) = O := ⟨_, rfl⟩
    obtain ⟨D, hD⟩ : ∃ D, dclP (outAts ts k) l2 (needL (nodeAt ts k).name O) = D := ⟨_, rfl⟩
    obtain ⟨ss, hss⟩ : ∃ ss, kidSS ts but f (saidL ts k sd (nodeAt ts k)) (kidsN ts k) = ss := ⟨_, rfl⟩
    have EI := el_is (f := f) hT hz rfl hb hne hr hS hO hD hss
    have ho : OrdB (ltA (outAts ts k)) := by rw [lt_ahead hr]; exact ahead_ord ts k
    have CNE := hid (fun wx (hbx : Below w.heap.size w wx) => cNearer aa ca (nodeAt ts k).attrs F C pl wx (hA.below hbx) (hra'.below hbx) hz'.2.2.1 hz'.2.1)
    rw [← hpl] at CNE
    have COT := hid (fun (C' : Array Value) wx (hbx : Below w.heap.size w wx) (hA' : Asks 112 C' wx (outAts ts k)) => cOtherAttrs aa ca (nodeAt ts k).attrs 112 C' (outAts ts k) wx ho hA' (hra'.below hbx) hz'.2.2.1 h6)
    rw [hO] at COT
    have CPR := hid (fun (ao : Option Addr) (co : Nat) wx (hr : AtRow wx ao O) => cNeeded (nodeAt ts k).name ao co O wx hr EI.osz EI.olen hz'.1)
    have CND := hid (fun (v : Value) (C' : Array Value) wx (hbx : Below w.heap.size w wx) (hrd : Rd wx 1 v (needL (nodeAt ts k).name O).length (keyV (needL (nodeAt ts k).name O))) (hA' : Asks 112 C' wx (outAts ts k)) => cNewDecl v (needL (nodeAt ts k).name O) 112 F2 C' C2 (outAts ts k) l2 wx hrd hA' (hA2.below hbx) EI.psz EI.plen)
    rw [hD] at CND
    have CN2 := hid (fun (ad : Option Addr) (cd : Nat) wx (hbx : Below w.heap.size w wx) (hrow : AtRow wx ad D) => cNearer ad cd D F2 C2 l2 wx (hA2.below hbx) hrow EI.dsz (by have := EI.dlen; omega))
    have CIN := hid (fun (C' C'' : Array Value) wx (hbx : Below w.heap.size w wx) (hA' : Asks 112 C' wx (outAts ts k)) (hA'' : Asks 112 C'' wx (D ++ l2)) => cInside ts (some ⟨gb, go, none⟩) cap but f CN hT hz k (saidL ts k sd (nodeAt ts k)) (D ++ l2) 112 112 C' C'' wx (hR.below hbx) hk (by omega) EI.said hA' hA'')
    rw [hss] at CIN
    have HSH := hid (show ∀ (ad : Option Addr) (cd : Nat) (ao : Option Addr) (co : Nat) (a3 : Option Addr) (c3 : Nat) (wx : World), NewAts wx w.heap.size ad cd D → NewAts wx w.heap.size ao co O → KidsAt (fun g => w.heap.size ≤ g) wx f a3 ss → ShAt (fun g => w.heap.size ≤ g) wx (f + 1) (.iface 102 (.agg #[.string (nodeAt ts k).name, .slice ad D.length cd, .slice ao O.length co, .slice a3 ss.length c3])) (canonN ts but (f + 1) k sd) from
      fun ad cd ao co a3 c3 wx h1 h2 h3 => ⟨HCS.out, .inr ⟨(nodeAt ts k).name, ad, cd, D, ao, co, O, a3, c3, ss, rfl, hz'.1, h1.rowX (Nat.le_refl _), EI.dsz, EI.dlen, h2.rowX (Nat.le_refl _), EI.osz, by have := EI.olen; omega, by
        rw [← hss]
        unfold kidSS
        rw [List.length_map]
        have g1 := List.length_filter_le (notB but) (kidsN ts k)
        have g2 := kidsTo_len ts k ts.length
        have g3 : (kidsN ts k).length ≤ ts.length := g2
        omega, h3, EI.text⟩⟩)
    rw [decide_eq_false hne] at CT
    clear EI hO hD hss ho h6 hr hra hra' hz' hne CN hN hz hR hk hf hb hpl hS hA hA2 hT h50 q0 q1 q2 q3 hgb hs0 hw0 HCS
    generalize canonN ts but (f + 1) k sd = RES at *
    generalize needL (nodeAt ts k).name O = ND at *
    generalize ts.length = n at *
    generalize (nodeAt ts k).kind = tk at *
    generalize (nodeAt ts k).name = tn at *
    generalize (nodeAt ts k).attrs.length = ta at *
    generalize (nodeAt ts k).text = tx at *
    generalize D.length = nD at *
    generalize O.length = nO at *
    generalize ss.length = nS at *
    have hw0 := HW0.out
    go_enter Tryz.func39, Tryz.ntmps39
    go_wp2_with fail
    refine (CT.out _).mono ?_
    rintro e w1 ⟨rfl, hb1⟩
    have HB2 := hid (bb HB1.out hb1)
    have M2 := hid (blk_below M1.out hb1)
    have MS2 := hid (blk_below MS.out hb1)
    obtain ⟨⟨y0, y1, y2, y3⟩, _⟩ := box4 M2.out
    clear hb1 CT hw0 p0 p1 p2 p3 x0 x1 HB0 HB1 M0 M1 MS
    go_wp2_with fail
    refine (CNE.out _ HB2.out).mono ?_
    rintro e w2 ⟨C', rfl, hA3, hb3⟩
    have HB3 := hid (bb HB2.out hb3)
    have M3 := hid (blk_below M2.out hb3)
    have MS3 := hid (blk_below MS2.out hb3)
    have HA3 := hid hA3
    clear hA3 hb3 y0 y1 y2 y3 M2 MS2 HB2 CNE
    obtain ⟨⟨y0, y1, y2, y3⟩, _⟩ := box4 M3.out
    go_wp2_with fail
    refine (COT.out _ _ HB3.out HA3.out).mono ?_
    rintro e w3 ⟨ao, co, rfl, hno, hb4⟩
    have HB4 := hid (bb HB3.out hb4)
    have M4 := hid (blk_below M3.out hb4)
    have MS4 := hid (blk_below MS3.out hb4)
    have HA4 := hid (HA3.out.below hb4)
    have HNO := hid (hno.mono HB3.out.size)
    clear hno hb4 y0 y1 y2 y3 M3 MS3 HB3 HA3 COT
    obtain ⟨⟨y0, y1, y2, y3⟩, _⟩ := box4 M4.out
    go_wp2_with fail
    refine (CPR.out ao co _ HNO.out.row).mono ?_
    rintro e w4 ⟨vp, rfl, hrd, hb5⟩
    have HB5 := hid (bb HB4.out hb5)
    have M5 := hid (blk_below M4.out hb5)
    have MS5 := hid (blk_below MS4.out hb5)
    have HA5 := hid (HA4.out.below hb5)
    have HNO5 := hid (HNO.out.below hb5)
    have HRD := hid hrd
    clear hrd hb5 y0 y1 y2 y3 M4 MS4 HB4 HA4 HNO CPR
    go_wp2_with fail
    refine (CND.out vp _ _ HB5.out HRD.out HA5.out).mono ?_
    rintro e w5 ⟨ad, cd, rfl, hnd, hb6⟩
    have HB6 := hid (bb HB5.out hb6)
    have M6 := hid (blk_below M5.out hb6)
    have MS6 := hid (blk_below MS5.out hb6)
    have HA6 := hid (HA5.out.below hb6)
    have HNO6 := hid (HNO5.out.below hb6)
    have HND := hid (hnd.mono HB5.out.size)
    clear hnd hb6 M5 MS5 HB5 HA5 HNO5 HRD CND
    go_wp2_with fail
    have HBc := hid ((Below.refl w5.heap.size w5).drew)
    have HSX := hid (show ∀ W', Below w5.heap.size w5 W' → W'.cell? ⟨w.heap.size, 0, none⟩ = some (.slice (some ⟨gb, go, none⟩) n cap) ∧ W'.cell? ⟨w.heap.size, 1, none⟩ = some (.int .i64 but) from fun W' hb => (box2e (blk_below MS6.out hb)).1)
    go_region_held3 (fun w' => w'.cell? ⟨w.heap.size, 0, none⟩ = some (.slice (some ⟨gb, go, none⟩) n cap) ∧ w'.cell? ⟨w.heap.size, 1, none⟩ = some (.int .i64 but)) (exact HSX.out _ HBc.out)
      (first
        | (go_at_call 69; refine (CN2.out ad cd _ (bb HB6.out HBc.out) (HND.out.row.below HBc.out)).mono ?_; rintro e w6 ⟨C'', rfl, hA7, hb7⟩; have HA7 := hid hA7; replace HBc := hid (bb HBc.out hb7); clear hA7 hb7)
        | (go_at_call 76; refine (CIN.out _ _ _ (bb HB6.out HBc.out) (HA6.out.below HBc.out) HA7.out).mono ?_; rintro e w7 ⟨a3, c3, rfl, hk3, hb8⟩; have HK3 := hid (show KidsAt (fun g => w.heap.size ≤ g) w7 f a3 ss from hk3.widen (bb HB6.out HBc.out).size); replace HBc := hid (bb HBc.out hb8); clear hk3 hb8))
    obtain ⟨⟨y0, y1, y2, y3⟩, _⟩ := box4 (blk_below M6.out HBc.out)
    have HB9 := hid (bb HB6.out HBc.out)
    have HFIN := hid (HSH.out ad cd ao co a3 c3 _ (HND.out.below HBc.out) (HNO6.out.below HBc.out) HK3.out)
    clear HBc
    go_wp2_with fail
    go_ret
    exact ⟨_, rfl, HFIN.out, HB9.out⟩

end Go.Proofs.YtmghipjpgoghlaaGreat

namespace Go.Proofs.YtmghipjpgoghlaaGreat
open Go.RowKit
set_option linter.unusedVariables false

theorem ins_perm {α : Type} (lt : α → α → Bool) (l : List α) (x : α) : (insG lt l x).Perm (x :: l) := by
  obtain ⟨P, Q, rfl, e, _, _⟩ := ins_parts lt l x
  rw [e]
  exact List.perm_middle

theorem sort_perm {α : Type} (lt : α → α → Bool) (l : List α) : (sortG lt l).Perm l := by
  unfold sortG
  have key : ∀ (l m : List α), (l.foldl (insG lt) m).Perm (m ++ l) := by
    intro l
    induction l with
    | nil => intro m; rw [List.append_nil]; exact List.Perm.refl _
    | cons x l ih =>
      intro m
      rw [List.foldl_cons]
      refine (ih _).trans ?_
      refine ((ins_perm lt m x).append_right l).trans ?_
      exact List.perm_middle.symm
  exact key l []

theorem strict_sameG {α : Type} {lt : α → α → Bool} (ho : OrdB lt) : ∀ {l m : List α}, l.Pairwise (fun a b => lt a b = true) → m.Pairwise (fun a b => lt a b = true) → (∀ y, y ∈ l ↔ y ∈ m) → l = m
  | [], [], _, _, _ => rfl
  | [], y :: m, _, _, h => absurd ((h y).2 (by simp)) List.not_mem_nil
  | x :: l, [], _, _, h => absurd ((h x).1 (by simp)) List.not_mem_nil
  | x :: l, y :: m, hl, hm, h => by
    obtain ⟨a, b⟩ := List.pairwise_cons.1 hl
    obtain ⟨c, d⟩ := List.pairwise_cons.1 hm
    have no : ∀ z, lt z z = true → False := fun z hz => by have := ho.asym z z hz; rw [hz] at this; cases this
    have e : x = y := by
      rcases List.mem_cons.1 ((h x).1 (by simp)) with q | q
      · exact q
      · rcases List.mem_cons.1 ((h y).2 (by simp)) with r | r
        · exact r.symm
        · have h1 := a y r
          have h2 := ho.asym _ _ h1
          rw [c x q] at h2
          cases h2
    subst e
    rw [strict_sameG ho b d (fun z => ?_)]
    constructor
    · intro hz
      rcases List.mem_cons.1 ((h z).1 (by simp [hz])) with q | q
      · subst q; exact (no _ (a z hz)).elim
      · exact q
    · intro hz
      rcases List.mem_cons.1 ((h z).2 (by simp [hz])) with q | q
      · subst q; exact (no _ (c z hz)).elim
      · exact q

theorem sort_rev {α : Type} {lt : α → α → Bool} (ho : OrdB lt) {l : List α} (hn : l.Nodup) (ht : ∀ x ∈ l, ∀ y ∈ l, lt x y = false → lt y x = false → x = y) : sortG lt l.reverse = sortG lt l := by
  have strict : ∀ m : List α, m.Nodup → (∀ z, z ∈ m ↔ z ∈ l) → (sortG lt m).Pairwise (fun a b => lt a b = true) := by
    intro m hm hml
    have h1 := (sort_all ho m).1
    have h2 : (sortG lt m).Nodup := (sort_perm lt m).nodup_iff.2 hm
    have h3 := h1.and h2
    refine h3.imp_of_mem fun {a b} ha hb hab => ?_
    have ma := (hml a).1 ((sort_perm lt m).mem_iff.1 ha)
    have mb := (hml b).1 ((sort_perm lt m).mem_iff.1 hb)
    cases q : lt a b with
    | true => rfl
    | false => exact absurd (ht a ma b mb q hab.1) hab.2
  refine strict_sameG ho (strict _ ((List.reverse_perm l).nodup_iff.2 hn) (fun z => List.mem_reverse)) (strict _ hn (fun z => Iff.rfl)) fun y => ?_
  rw [(sort_perm lt _).mem_iff, (sort_perm lt _).mem_iff, List.mem_reverse]

theorem attrs_iff (l : List At) : AttrsOk l ↔ l.length ≤ 6 ∧ (∀ x ∈ l, atOk x) ∧ l.Pairwise fun a b => ¬ a.name = b.name := by
  unfold AttrsOk AtsOk
  constructor
  · rintro ⟨h1, h2, h3⟩
    refine ⟨h1, fun x hx => ?_, List.pairwise_iff_getElem.2 fun i j hi hj hij => h3 j i hj hij hj⟩
    obtain ⟨j, hj, rfl⟩ := List.getElem_of_mem hx
    exact h2 j hj hj
  · rintro ⟨h1, h2, h3⟩
    exact ⟨h1, fun j hj _ => h2 _ (List.getElem_mem hj), fun i j hi hj _ => List.pairwise_iff_getElem.1 h3 j i (by omega) hi hj⟩

/-- What a name with a prefix is made of. -/
theorem name_parts {s : ByteArray} (h : nameL s.data.toList = true) : (colonAt s.data.toList = none ∧ preS s = ⟨#[]⟩ ∧ locS s = s) ∨ (¬ (preS s).size = 0 ∧ ¬ (locS s).size = 0 ∧ s.data.toList = (preS s).data.toList ++ 58 :: (locS s).data.toList) := by
  unfold preS locS partP partL
  rw [if_pos h, if_pos h]
  unfold nameL at h
  unfold preL locL at h ⊢
  cases hc : colonAt s.data.toList with
  | none => exact .inl ⟨rfl, rfl, rfl⟩
  | some a =>
    rw [hc] at h
    simp only [Bool.and_eq_true] at h
    have one : ∀ l : List UInt8, lettersL l = true → ¬ (⟨l.toArray⟩ : ByteArray).size = 0 := fun l hl => by
      unfold lettersL at hl
      simp only [Bool.and_eq_true, decide_eq_true_eq] at hl
      rw [size_mk]
      omega
    refine .inr ⟨one _ h.1, one _ h.2, ?_⟩
    unfold colonAt at hc
    obtain ⟨ha, hb, _⟩ := List.findIdx?_eq_some_iff_getElem.1 hc
    have e : s.data.toList[a] = 58 := by
      have : s.data.toList[a].toNat = 58 := by simpa using hb
      have h2 : s.data.toList[a] = UInt8.ofNat s.data.toList[a].toNat := by simp
      rw [h2, this]
      rfl
    show s.data.toList = s.data.toList.take a ++ 58 :: s.data.toList.drop (a + 1)
    rw [← e, ← List.drop_eq_getElem_cons ha, List.take_append_drop]

theorem ba_ext {a b : ByteArray} (h : a.data.toList = b.data.toList) : a = b := by
  apply ByteArray.ext
  exact Array.toList_inj.1 h

theorem decl_name {x y : At} {p : ByteArray} (hx : nameL x.name.data.toList = true) (hy : nameL y.name.data.toList = true) (dx : declF x = some p) (dy : declF y = some p) : x.name = y.name := by
  have ns0 : ¬ nsS.size = 0 := by decide
  have one : ∀ z : At, nameL z.name.data.toList = true → declF z = some p → (z.name = nsS ∧ p = ⟨#[]⟩) ∨ (preS z.name = nsS ∧ locS z.name = p ∧ ¬ p.size = 0 ∧ z.name.data.toList = nsS.data.toList ++ 58 :: p.data.toList) := by
    intro z hz dz
    unfold declF at dz
    split at dz
    · rename_i h1
      injection dz with dz
      exact .inl ⟨h1, dz.symm⟩
    · split at dz
      · rename_i h1 h2
        injection dz with dz
        rcases name_parts hz with ⟨_, q, _⟩ | ⟨q1, q2, q3⟩
        · rw [h2] at q; exact absurd q (by decide)
        · rw [h2, dz] at q3
          rw [dz] at q2
          exact .inr ⟨h2, dz, q2, q3⟩
      · cases dz
  rcases one x hx dx with ⟨a1, a2⟩ | ⟨a1, a2, a3, a4⟩
  · rcases one y hy dy with ⟨b1, _⟩ | ⟨_, _, b3, _⟩
    · rw [a1, b1]
    · rw [a2] at b3; exact absurd rfl b3
  · rcases one y hy dy with ⟨_, b2⟩ | ⟨_, _, _, b4⟩
    · rw [b2] at a3; exact absurd rfl a3
    · exact ba_ext (by rw [a4, b4])

def zzS : ByteArray := ⟨#[122, 122, 122]⟩

def zzA : At := ⟨⟨#[110, 115, 58, 122, 122, 122]⟩, ⟨#[110, 111, 110, 101]⟩⟩

theorem zz_decl : declF zzA = some zzS := nmD_decl (p := zzS) (.inr (by decide +kernel)) _

theorem zz_ok : atOk zzA := ⟨by decide +kernel, by decide +kernel, by decide⟩

theorem zz_right : rightB zzA = true := by
  unfold rightB
  rw [zz_decl]
  decide +kernel

theorem six_zz {x : At} (hx : nameL x.name.data.toList = true) (d : declF x = some zzS) : x.name.size = 6 := by
  have := decl_name hx zz_ok.1 d zz_decl
  rw [this]
  rfl

/-- The same tree, with all attrs turned round, and here and there one more. -/
structure Turned (ts us : List Tk) : Prop where
  len : us.length = ts.length
  at_ : ∀ j (h : j < ts.length), ∃ z : Bool, us[j]? = some ⟨ts[j].kind, ts[j].name, ts[j].attrs.reverse ++ (if z then [zzA] else []), ts[j].text⟩ ∧ (z = true → ts[j].attrs.length < 6 ∧ ¬ ts[j].name.size = 0)

def NoSix (ts : List Tk) : Prop := ∀ t ∈ ts, ∀ x ∈ t.attrs, ¬ x.name.size = 6

section
variable {ts us : List Tk}

theorem Turned.par (h : Turned ts us) (j : Nat) : parI us j = parI ts j := by
  unfold parI
  by_cases hj : j < ts.length
  · obtain ⟨z, e, _⟩ := h.at_ j hj
    rw [e, List.getElem?_eq_getElem hj]
  · rw [List.getElem?_eq_none (by rw [h.len]; omega), List.getElem?_eq_none (by omega)]

theorem Turned.chain (h : Turned ts us) : ∀ i, chainF us i = chainF ts i
  | 0 => rfl
  | i + 1 => by
    show i :: (chainF us i).dropWhile _ = i :: (chainF ts i).dropWhile _
    rw [h.chain i, h.par i]

theorem Turned.get (h : Turned ts us) {j : Nat} (hj : j < ts.length) (hu : j < us.length) : us[j].kind = ts[j].kind ∧ us[j].name = ts[j].name ∧ us[j].text = ts[j].text ∧ ∃ z : Bool, us[j].attrs = ts[j].attrs.reverse ++ (if z then [zzA] else []) ∧ (z = true → ts[j].attrs.length < 6 ∧ ¬ ts[j].name.size = 0) := by
  obtain ⟨z, e, hz⟩ := h.at_ j hj
  rw [List.getElem?_eq_getElem hu] at e
  injection e with e
  rw [e]
  exact ⟨rfl, rfl, rfl, z, rfl, hz⟩

theorem Turned.el (h : Turned ts us) {j : Nat} (he : elN ts j) : elN us j := by
  obtain ⟨hj, hn⟩ := he
  have hu : j < us.length := by rw [h.len]; exact hj
  exact ⟨hu, by rw [(h.get hj hu).2.1]; exact hn⟩

theorem ats_of (hT : TreeP ts) {j : Nat} (hj : j < ts.length) : AttrsOk ts[j].attrs := by
  obtain ⟨⟨_, n1⟩, _⟩ := hT.2.2.2.2 j hj
  by_cases hn : ts[j].name.size = 0
  · rw [nodeB_tx hn] at n1
    simp only [Bool.and_eq_true, decide_eq_true_eq] at n1
    have : ts[j].attrs = [] := List.length_eq_zero_iff.1 n1.1
    rw [this]
    exact (attrs_iff []).2 ⟨by simp, fun x hx => absurd hx List.not_mem_nil, List.Pairwise.nil⟩
  · rw [nodeB_el hn] at n1
    simp only [Bool.and_eq_true] at n1
    have h2 := n1.2.1
    unfold attrsB at h2
    simpa using h2

theorem turn_ok {l : List At} (h : AttrsOk l) (h6 : ∀ x ∈ l, ¬ x.name.size = 6) {z : Bool} (hz : z = true → l.length < 6) : AttrsOk (l.reverse ++ (if z then [zzA] else [])) := by
  obtain ⟨a, b, c⟩ := (attrs_iff l).1 h
  have hr : l.reverse.Pairwise fun a b => ¬ a.name = b.name := List.pairwise_reverse.2 (c.imp fun h e => h e.symm)
  cases z with
  | false =>
    rw [if_neg Bool.false_ne_true, List.append_nil]
    exact (attrs_iff _).2 ⟨by rw [List.length_reverse]; exact a, fun x hx => b x (List.mem_reverse.1 hx), hr⟩
  | true =>
    rw [if_pos rfl]
    refine (attrs_iff _).2 ⟨by rw [List.length_append, List.length_reverse]; have := hz rfl; show _ + 1 ≤ 6; omega, fun x hx => ?_, List.pairwise_append.2 ⟨hr, List.pairwise_singleton _ _, fun x hx y hy => ?_⟩⟩
    · rcases List.mem_append.1 hx with q | q
      · exact b x (List.mem_reverse.1 q)
      · rw [List.mem_singleton.1 q]; exact zz_ok
    · rw [List.mem_singleton.1 hy]
      intro e
      exact h6 x (List.mem_reverse.1 hx) (by rw [e]; rfl)

theorem turn_tree (hT : TreeP ts) (h6 : NoSix ts) (h : Turned ts us) : TreeP us := by
  refine ⟨by rw [h.len]; exact hT.1, by rw [h.len]; exact hT.2.1, by rw [h.par]; exact hT.2.2.1, h.el hT.2.2.2.1, fun i hi => ?_⟩
  have hi' : i < ts.length := by rw [h.len] at hi; exact hi
  obtain ⟨⟨_, n1⟩, n2, n3, n4⟩ := hT.2.2.2.2 i hi'
  obtain ⟨g1, g2, g3, z, g4, g5⟩ := h.get hi' hi
  refine ⟨⟨hi, ?_⟩, ?_, by rw [h.chain]; exact n3, ?_⟩
  · by_cases hn : ts[i].name.size = 0
    · rw [nodeB_tx hn] at n1
      rw [nodeB_tx (by rw [g2]; exact hn), g3]
      simp only [Bool.and_eq_true, decide_eq_true_eq] at n1 ⊢
      refine ⟨?_, n1.2⟩
      have e0 : ts[i].attrs = [] := List.length_eq_zero_iff.1 n1.1
      cases z with
      | false => rw [g4, e0]; rfl
      | true => exact absurd hn (g5 rfl).2
    · rw [nodeB_el hn] at n1
      rw [nodeB_el (by rw [g2]; exact hn), g2, g3, g4]
      simp only [Bool.and_eq_true] at n1 ⊢
      exact ⟨n1.1, attrsB_t (turn_ok (ats_of hT hi') (h6 _ (List.getElem_mem hi')) (fun e => (g5 e).1)), n1.2.2⟩
  · rcases n2 with n2 | ⟨p, p1, p2, p3⟩
    · exact .inl n2
    · exact .inr ⟨p, by rw [h.chain]; exact p1, by rw [h.par]; exact p2, h.el p3⟩
  · rintro ⟨k1, k2, k3, k4, k5⟩
    have a1 := h.get hi' hi
    have a2 := h.get (j := i - 1) (by omega) (by omega)
    exact n4 ⟨hi', k2, by rw [← a1.2.1]; exact k3, by rw [← a2.2.1]; exact k4, by rw [← a2.1, ← a1.1]; exact k5⟩

/-- Turned round they declare the same. -/
theorem find_turn {l : List At} (h : AttrsOk l) {z : Bool} {p : ByteArray} (hp : ¬ p = zzS) : (l.reverse ++ (if z then [zzA] else [])).find? (declB p) = l.find? (declB p) := by
  obtain ⟨_, b, c⟩ := (attrs_iff l).1 h
  have hzz : declB p zzA = false := by unfold declB; rw [zz_decl]; simp [Ne.symm hp]
  have e1 : (if z then [zzA] else []).find? (declB p) = none := by
    cases z with
    | false => rfl
    | true => rw [if_pos rfl, List.find?_cons, hzz]; rfl
  rw [List.find?_append, e1, Option.or_none]
  cases hf : l.find? (declB p) with
  | none =>
    rw [List.find?_eq_none] at hf ⊢
    exact fun x hx => hf x (List.mem_reverse.1 hx)
  | some x =>
    have hx := List.mem_of_find?_eq_some hf
    have dx := List.find?_some hf
    cases hg : l.reverse.find? (declB p) with
    | none =>
      rw [List.find?_eq_none] at hg
      exact absurd dx (hg x (List.mem_reverse.2 hx))
    | some y =>
      have hy := List.mem_reverse.1 (List.mem_of_find?_eq_some hg)
      have dy := List.find?_some hg
      unfold declB at dx dy
      rw [decide_eq_true_eq] at dx dy
      have en := decl_name (b x hx).1 (b y hy).1 dx dy
      rw [same_name c hx hy en]
where
  same_name {l : List At} (c : l.Pairwise fun a b => ¬ a.name = b.name) {x y : At} (hx : x ∈ l) (hy : y ∈ l) (e : x.name = y.name) : y = x := by
    obtain ⟨i, hi, rfl⟩ := List.getElem_of_mem hx
    obtain ⟨j, hj, rfl⟩ := List.getElem_of_mem hy
    rcases Nat.lt_trichotomy i j with q | q | q
    · exact absurd e (List.pairwise_iff_getElem.1 c i j hi hj q)
    · subst q; rfl
    · exact absurd e.symm (List.pairwise_iff_getElem.1 c j i hj hi q)

theorem all_turn {l : List At} {z : Bool} : (l.reverse ++ (if z then [zzA] else [])).all rightB = l.all rightB := by
  rw [List.all_append, List.all_reverse]
  cases z with
  | false => simp
  | true => simp [zz_right]

theorem Turned.row (h : Turned ts us) {j : Nat} (hj : j < ts.length) : ∃ z : Bool, us[j]? = some ⟨ts[j].kind, ts[j].name, ts[j].attrs.reverse ++ (if z then [zzA] else []), ts[j].text⟩ := by
  obtain ⟨z, e, _⟩ := h.at_ j hj
  exact ⟨z, e⟩

theorem Turned.up (h : Turned ts us) (hT : TreeP ts) (c : List Nat) (hc : ∀ j ∈ c, j < ts.length) {p : ByteArray} (hp : ¬ p = zzS) : (upAts us c).find? (declB p) = (upAts ts c).find? (declB p) ∧ (upAts us c).all rightB = (upAts ts c).all rightB := by
  unfold upAts
  induction c with
  | nil => exact ⟨rfl, rfl⟩
  | cons j c ih =>
    have hj := hc j (by simp)
    obtain ⟨i1, i2⟩ := ih (fun i hi => hc i (by simp [hi]))
    obtain ⟨z, e⟩ := h.row hj
    rw [List.flatMap_cons, List.flatMap_cons, e, List.getElem?_eq_getElem hj]
    simp only
    have f1 := find_turn (z := z) (ats_of hT hj) hp
    have f2 := all_turn (l := ts[j].attrs) (z := z)
    generalize (ts[j].attrs.reverse ++ if z = true then [zzA] else []) = A at *
    rw [List.find?_append, List.find?_append, f1, i1, List.all_append, List.all_append, f2, i2]
    exact ⟨rfl, rfl⟩

theorem chain_lt (ts : List Tk) : ∀ (i : Nat), ∀ p ∈ chainF ts (i + 1), p < i + 1
  | 0, p, hp => by have : p ∈ [0] := hp; simp at this; omega
  | i + 1, p, hp => by
    have e : chainF ts (i + 1 + 1) = (i + 1) :: (chainF ts (i + 1)).dropWhile (fun (x : Nat) => !decide ((x : Int) = parI ts (i + 1))) := rfl
    rw [e] at hp
    rcases List.mem_cons.1 hp with rfl | hp
    · omega
    · have := chain_lt ts i p ((List.dropWhile_sublist _).subset hp)
      omega

theorem Turned.mean (h : Turned ts us) (hT : TreeP ts) {i : Nat} (hi : i < ts.length) {p : ByteArray} (hp : ¬ p = zzS) : meanF us i p = meanF ts i p := by
  unfold meanF
  rw [h.chain]
  obtain ⟨a, b⟩ := h.up hT (chainF ts (i + 1)) (fun j hj => by have := chain_lt ts i j hj; omega) hp
  unfold meanL
  rw [a, b]

theorem not_zz (hT : TreeP ts) (h6 : NoSix ts) {i : Nat} (hi : i < ts.length) {p : ByteArray} (h : (meanF ts i p).isSome = true) : ¬ p = zzS := by
  rintro rfl
  unfold meanF meanL at h
  split at h
  · cases hf : (upAts ts (chainF ts (i + 1))).find? (declB zzS) with
    | none =>
      rw [hf] at h
      simp only at h
      rw [if_neg (by decide)] at h
      cases h
    | some x =>
      have hx := List.mem_of_find?_eq_some hf
      have dx := List.find?_some hf
      unfold declB at dx
      rw [decide_eq_true_eq] at dx
      unfold upAts at hx
      obtain ⟨j, hj, hx⟩ := List.mem_flatMap.1 hx
      have hjl : j < ts.length := by have := chain_lt ts i j hj; omega
      rw [List.getElem?_eq_getElem hjl] at hx
      have hok := ((attrs_iff _).1 (ats_of hT hjl)).2.1 x hx
      exact h6 _ (List.getElem_mem hjl) x hx (six_zz hok.1 dx)
  · cases h

theorem zz_cnt : cntB zzA = false := by unfold cntB; rw [zz_decl]; rfl

theorem filter_turn {l : List At} {z : Bool} {f : At → Bool} (hf : f zzA = false) : (l.reverse ++ (if z then [zzA] else [])).filter f = (l.filter f).reverse := by
  rw [List.filter_append, List.filter_reverse]
  cases z with
  | false => simp
  | true => simp [hf]

theorem turn_names (hN : NamesP ts) (h6 : NoSix ts) (h : Turned ts us) : NamesP us := by
  have hT := hN.1
  refine ⟨turn_tree hT h6 h, fun i u hu => ?_⟩
  have hi : i < us.length := by
    rcases Nat.lt_or_ge i us.length with q | q
    · exact q
    · rw [List.getElem?_eq_none q] at hu; cases hu
  have hi' : i < ts.length := by rw [← h.len]; exact hi
  rw [List.getElem?_eq_getElem hi] at hu
  injection hu with hu
  subst hu
  obtain ⟨g1, g2, g3, z, g4, g5⟩ := h.get hi' hi
  rcases hN.2 i ts[i] (List.getElem?_eq_getElem hi') with e | ⟨e1, e2, e3, e4⟩
  · exact .inl (by rw [g2]; exact e)
  · refine .inr ⟨?_, by rw [g2]; exact e2, fun x hx hc => ?_, ?_⟩
    · rw [g2, h.mean hT hi' (not_zz hT h6 hi' e1)]
      exact e1
    · rw [g4] at hx
      rcases List.mem_append.1 hx with q | q
      · have hx' := List.mem_reverse.1 q
        have hs := e3 x hx' hc
        rw [h.mean hT hi' (not_zz hT h6 hi' hs)]
        exact hs
      · have : x = zzA := by
          cases z with
          | false => exact absurd q (by simp)
          | true => simpa using q
        rw [this, zz_cnt] at hc
        cases hc
    · unfold keysN at e4 ⊢
      rw [g4, filter_turn zz_cnt, List.map_reverse]
      refine (List.reverse_perm _).nodup_iff.2 ?_
      have : (ts[i].attrs.filter cntB).map (keyN us i) = (ts[i].attrs.filter cntB).map (keyN ts i) := by
        refine List.map_congr_left fun x hx => ?_
        obtain ⟨h1, h2⟩ := List.mem_filter.1 hx
        unfold keyN
        rw [h.mean hT hi' (not_zz hT h6 hi' (e3 x h1 h2))]
      rw [this]
      exact e4

/-- No two of the others are alike by meaning and local. -/
theorem oth_total (hN : NamesP ts) {i : Nat} (hi : i < ts.length) (hne : ¬ ts[i].name.size = 0) : ∀ x ∈ ts[i].attrs.filter nodeclB, ∀ y ∈ ts[i].attrs.filter nodeclB, aheadF ts i x y = false → aheadF ts i y x = false → x = y := by
  have hT := hN.1
  have hr := right_of hN hi (by rw [nodeAt_at hi]; exact hne)
  rcases hN.2 i ts[i] (List.getElem?_eq_getElem hi) with e | ⟨e1, e2, e3, e4⟩
  · exact absurd e hne
  obtain ⟨_, ok, pw⟩ := (attrs_iff _).1 (ats_of hT hi)
  -- what a prefix means is something
  have some_mean : ∀ x ∈ ts[i].attrs, cntB x = true → ¬ ((meanF ts i (preS x.name)).getD ⟨#[]⟩).size = 0 := by
    intro x hx hc
    have hs := e3 x hx hc
    have hp : ¬ (preS x.name).size = 0 := by unfold cntB at hc; simp only [Bool.and_eq_true, Bool.not_eq_true', decide_eq_false_iff_not] at hc; exact hc.2
    rw [meanF_look hr] at hs ⊢
    unfold lookL at hs ⊢
    cases hf : (outAts ts i).find? (declB (preS x.name)) with
    | none => rw [hf] at hs; simp only at hs; rw [if_neg hp] at hs; cases hs
    | some y =>
      have hy := List.mem_of_find?_eq_some hf
      have dy := List.find?_some hf
      have ry := List.all_eq_true.1 hr y hy
      unfold declB at dy
      rw [decide_eq_true_eq] at dy
      unfold rightB at ry
      rw [dy] at ry
      simp only [Bool.and_eq_true, Bool.or_eq_true, decide_eq_true_eq, Bool.not_eq_true', decide_eq_false_iff_not] at ry
      exact ry.2.resolve_left hp
  intro x hx y hy h1 h2
  obtain ⟨hx1, hx2⟩ := List.mem_filter.1 hx
  obtain ⟨hy1, hy2⟩ := List.mem_filter.1 hy
  unfold aheadF at h1 h2
  simp only [Bool.or_eq_false_iff, Bool.and_eq_false_iff, decide_eq_false_iff_not] at h1 h2
  have k1 := ltB_tri h1.1 h2.1
  have k2 := ltB_tri (h1.2.resolve_left (fun q => q k1)) (h2.2.resolve_left (fun q => q k1.symm))
  have cnt : ∀ a ∈ ts[i].attrs, nodeclB a = true → ¬ (preS a.name).size = 0 → cntB a = true := fun a _ ha hp => by unfold cntB; unfold nodeclB at ha; rw [ha, decide_eq_false hp]; rfl
  unfold atMean at k1
  by_cases px : (preS x.name).size = 0
  · by_cases py : (preS y.name).size = 0
    · have l1 : locS x.name = x.name := by
        rcases name_parts (ok x hx1).1 with ⟨_, _, q⟩ | ⟨q, _⟩
        · exact q
        · exact absurd px q
      have l2 : locS y.name = y.name := by
        rcases name_parts (ok y hy1).1 with ⟨_, _, q⟩ | ⟨q, _⟩
        · exact q
        · exact absurd py q
      rw [l1, l2] at k2
      exact find_turn.same_name pw hy1 hx1 k2.symm
    · rw [if_pos px, if_neg py] at k1
      exact absurd (by rw [← k1]; rfl) (some_mean y hy1 (cnt y hy1 hy2 py))
  · by_cases py : (preS y.name).size = 0
    · rw [if_neg px, if_pos py] at k1
      exact absurd (by rw [k1]; rfl) (some_mean x hx1 (cnt x hx1 hx2 px))
    · rw [if_neg px, if_neg py] at k1
      have ek : keyN ts i x = keyN ts i y := by unfold keyN; rw [k1, k2]
      have mx : x ∈ ts[i].attrs.filter cntB := List.mem_filter.2 ⟨hx1, cnt x hx1 hx2 px⟩
      have my : y ∈ ts[i].attrs.filter cntB := List.mem_filter.2 ⟨hy1, cnt y hy1 hy2 py⟩
      unfold keysN at e4
      obtain ⟨m, hm, rfl⟩ := List.getElem_of_mem mx
      obtain ⟨n, hn, rfl⟩ := List.getElem_of_mem my
      have : m = n := by
        refine (List.getElem_inj (xs := (ts[i].attrs.filter cntB).map (keyN ts i)) (i := m) (j := n) (h₀ := by rw [List.length_map]; exact hm) (h₁ := by rw [List.length_map]; exact hn) e4).1 ?_
        rw [List.getElem_map, List.getElem_map]
        exact ek
      subst this
      rfl

theorem turn_canon (hN : NamesP ts) (h6 : NoSix ts) (h : Turned ts us) (f : Nat) (sd : List At) : canonN ts (-1) f 0 sd = canonN us (-1) f 0 sd := by
  have hT := hN.1
  refine canon_alike (φ := fun i => i) (D := fun i => i < ts.length) (fun i hi => ?_) (fun i _ => ⟨by omega, by omega⟩) (fun i hi => ?_) f 0 sd hT.1
  · have hu : i < us.length := by rw [h.len]; exact hi
    obtain ⟨g1, g2, g3, z, g4, g5⟩ := h.get hi hu
    have nT := nodeAt_at hi
    have nU := nodeAt_at hu
    have needed : ¬ (nodeAt ts i).name.size = 0 → ∀ p ∈ preL7 (nodeAt ts i).name (nodeAt ts i).attrs, (meanF ts i p).isSome = true := fun hn p hp => by
      rw [nT] at hn hp
      rcases hN.2 i ts[i] (List.getElem?_eq_getElem hi) with e | ⟨e1, _, e3, _⟩
      · exact absurd e hn
      · rcases (pre_strict _ _).2 p |>.1 hp with rfl | ⟨x, hx, hc, rfl⟩
        · exact e1
        · exact e3 x hx hc
    refine ⟨by rw [nT, nU]; exact g2, by rw [nT, nU]; exact g3, fun _ => ?_, fun hn => ?_, fun hn p hp => ?_⟩
    · rw [nT, nU, g2, g4]
      obtain ⟨a1, a2⟩ := pre_strict ts[i].name (ts[i].attrs.reverse ++ (if z then [zzA] else []))
      obtain ⟨b1, b2⟩ := pre_strict ts[i].name ts[i].attrs
      refine strict_same a1 b1 fun y => ?_
      rw [a2, b2]
      constructor
      · rintro (e | ⟨x, hx, hc, rfl⟩)
        · exact .inl e
        · rcases List.mem_append.1 hx with q | q
          · exact .inr ⟨x, List.mem_reverse.1 q, hc, rfl⟩
          · have : x = zzA := by
              cases z with
              | false => exact absurd q (by simp)
              | true => simpa using q
            rw [this, zz_cnt] at hc
            cases hc
      · rintro (e | ⟨x, hx, hc, rfl⟩)
        · exact .inl e
        · exact .inr ⟨x, List.mem_append_left _ (List.mem_reverse.2 hx), hc, rfl⟩
    · have hn' := hn
      rw [nT] at hn'
      have ea : othL us i (nodeAt us i).attrs = othL ts i (nodeAt us i).attrs := by
        refine oth_congr fun x hx hc => ?_
        rw [nU, g4] at hx
        have hx' : x ∈ ts[i].attrs := by
          rcases List.mem_append.1 hx with q | q
          · exact List.mem_reverse.1 q
          · have : x = zzA := by
              cases z with
              | false => exact absurd q (by simp)
              | true => simpa using q
            rw [this, zz_cnt] at hc
            cases hc
        have hs := needed hn (preS x.name) ((pre_strict _ _).2 _ |>.2 (.inr ⟨x, by rw [nT]; exact hx', hc, rfl⟩))
        unfold mnF
        rw [h.mean hT hi (not_zz hT h6 hi hs)]
      have zn : nodeclB zzA = false := by unfold nodeclB; rw [zz_decl]; rfl
      rw [ea, nU, nT, g4, oth_sort, oth_sort, filter_turn zn]
      have nd : (ts[i].attrs.filter nodeclB).Nodup := by
        have pw := ((attrs_iff _).1 (ats_of hT hi)).2.2
        have : ts[i].attrs.Nodup := pw.imp fun h e => h (by rw [e])
        exact this.filter _
      exact sort_rev (ahead_ord ts i) nd (oth_total hN hi hn')
    · unfold mnF
      rw [h.mean hT hi (not_zz hT h6 hi (needed hn p hp))]
  · have nb : ∀ l : List Nat, l.filter (notB (-1)) = l := fun l => List.filter_eq_self.2 fun x _ => by unfold notB; rw [decide_eq_false (by omega)]; rfl
    refine ⟨_, rfl, fun j hj => ?_, ?_⟩
    · rw [nb] at hj
      exact kidsN_lt hj
    · rw [nb, nb, List.map_id']
      unfold kidsN kidsTo
      rw [h.len]
      exact List.filter_congr fun j _ => by rw [h.par]

theorem turn_all (hN : namesB ts = true) (h6 : NoSix ts) (h : Turned ts us) : namesB us = true ∧ canonI us 0 (-1) = canonI ts 0 (-1) := by
  have hNt : NamesP ts := by unfold namesB at hN; simpa using hN
  have hNu := turn_names hNt h6 h
  have hNb : namesB us = true := namesB_t hNu
  refine ⟨hNb, ?_⟩
  have el0 : ∀ (tt : List Tk), TreeP tt → elemB tt 0 = true := fun tt hT => by
    unfold elemB
    rw [show hasB tt (0 : Int) = true from has_of (k := 0) hT hT.1, show ((0 : Int).toNat) = 0 from rfl]
    obtain ⟨h0, hn⟩ := hT.2.2.2.1
    rw [nameI_at h0, decide_eq_false hn]
    rfl
  have c1 : canB ts 0 (-1) = true := by
    unfold canB
    have := hNt.1.1
    rw [hN, el0 _ hNt.1, decide_eq_true (show (-1 : Int) ≤ -1 ∧ (-1 : Int) ≤ (ts.length : Int) - 1 by omega)]
    rfl
  have c2 : canB us 0 (-1) = true := by
    unfold canB
    have := hNu.1.1
    rw [hNb, el0 _ hNu.1, decide_eq_true (show (-1 : Int) ≤ -1 ∧ (-1 : Int) ≤ (us.length : Int) - 1 by omega)]
    rfl
  rw [canonI_yes c1, canonI_yes c2, h.len]
  exact (turn_canon hNt h6 h _ _).symm

end

end Go.Proofs.YtmghipjpgoghlaaGreat

namespace Go.Proofs.YtmghipjpgoghlaaGreat
open Go.RowKit
set_option linter.unusedVariables false
set_option linter.unusedSimpArgs false

theorem TksD.sz {n : Nat} {ts : List Tk} (h : TksD n ts) : TksSz n ts := fun t ht => by
  obtain ⟨h1, h2, h3, h4⟩ := h t ht
  exact ⟨h1, h2, fun x hx => (h3 x hx).1, h4⟩

theorem TksD.six {n : Nat} {ts : List Tk} (h : TksD n ts) : NoSix ts := fun t ht x hx => ((h t ht).2.2.1 x hx).2

theorem sz_bigS {ts : List Tk} (h : TksSz 40 ts) : TksSz 1048576 ts := fun t ht => by
  obtain ⟨h1, h2, h3, h4⟩ := h t ht
  exact ⟨by omega, by omega, fun x hx => ⟨by have := (h3 x hx).1; omega, by have := (h3 x hx).2; omega⟩, by omega⟩

/-- Two trees, or what might be some. -/
def DrawnS (w : World) (e : Ending) (w' : World) : Prop :=
  ∃ a1 c1 ts a2 c2 us, e = .returned (.tuple #[.slice a1 (ts : List Tk).length c1, .slice a2 (us : List Tk).length c2]) ∧ TkRow w' a1 ts ∧ ts.length ≤ 11 ∧ TksSz 40 ts ∧ TkRow w' a2 us ∧ us.length ≤ 11 ∧ TksSz 40 us ∧ Below w.heap.size w w'

/-- One tree with no name of six signs. -/
def DrawnZ (w : World) (e : Ending) (w' : World) : Prop :=
  ∃ a' c' ts, e = .returned (.slice a' (ts : List Tk).length c') ∧ TkRow w' a' ts ∧ ts.length ≤ 11 ∧ TksSz 40 ts ∧ NoSix ts ∧ (ts.length ≤ c' ∧ c' ≤ maxLen) ∧ Below w.heap.size w w'

set_option maxHeartbeats 1000000 in
theorem cDrawTreeOkZ (a : Option Addr) (len cap : Nat) (w : World) (hlen : len ≤ 4096) (hcr : CodeRow w a len) :
    Calls Tryz.prog 41 #[.slice a len cap] w (DrawnZ w) := by
  have HR := hid hcr
  clear hcr
  go_enter Tryz.func41, Tryz.ntmps41
  go_wp2_with fail
  refine (cNew a len cap _ hlen HR.out).mono ?_
  rintro e w1 ⟨rfl, hC1⟩
  have HC1 := hid hC1
  clear hC1
  go_wp2_with fail
  refine (cDrawAny w a len cap _ _ hlen HR.out HC1.out).mono ?_
  rintro e w2 ⟨a', c', ts, rfl, hrow, hn, hz, hC2, _, hc1, hc2⟩
  have H := hid (And.intro hrow (And.intro hn (And.intro hz hC2.2.1)))
  have HC := hid (And.intro hc1 hc2)
  clear hrow hn hz hC2 hc1 hc2
  go_wp2_with fail
  go_ret
  exact ⟨a', c', ts, rfl, H.out.1, H.out.2.1, H.out.2.2.1.sz, H.out.2.2.1.six, HC.out, H.out.2.2.2⟩

set_option maxHeartbeats 1000000 in
theorem cDrawCanonAllZ (a : Option Addr) (len cap : Nat) (w : World) (hlen : len ≤ 4096) (hcr : CodeRow w a len) :
    Calls Tryz.prog 12 #[.slice a len cap] w (DrawnZ w) := by
  have C := hid (cDrawTreeOkZ a len cap w hlen hcr)
  clear hcr
  go_enter Tryz.func12, Tryz.ntmps12
  go_wp2_with fail
  refine C.out.mono ?_
  rintro e w1 ⟨a', c', ts, rfl, h⟩
  have H := hid h
  clear h C
  go_wp2_with fail
  go_ret
  exact ⟨a', c', ts, rfl, H.out⟩

theorem Cur.belowS {w0 : World} {a : Option Addr} {len cap b : Nat} {w w1 : World} (h : Cur w0 a len cap b w) (hb : Below w.heap.size w w1) : Cur w0 a len cap b w1 :=
  h.grown (row := none) ⟨hb.os, hb.tape, hb.output, hb.size, fun k hk _ => hb.block k hk⟩ (by simp) (by simp)

set_option maxRecDepth 8000 in
set_option maxHeartbeats 4000000 in
theorem cDrawSame (a : Option Addr) (len cap : Nat) (w : World) (hlen : len ≤ 4096) (hcr : CodeRow w a len) :
    Calls Tryz.prog 20 #[.slice a len cap] w (DrawnS w) := by
  have HR := hid hcr
  clear hcr
  go_enter Tryz.func20, Tryz.ntmps20
  go_wp2_with fail
  refine (cNew a len cap _ hlen HR.out).mono ?_
  rintro e w1 ⟨rfl, hC1⟩
  have HC1 := hid hC1
  clear hC1
  go_wp2_with fail
  refine (cDrawAny w a len cap _ _ hlen HR.out HC1.out).mono ?_
  rintro e w2 ⟨a', c', ts, rfl, hrow, hn, hz, hC2, _, hc1, hc2⟩
  have HC2 := hid hC2
  have HT := hid hrow
  have HN := hid hn
  have HZ := hid hz.sz
  have CC := hid (cCopyT a' c' ts w2 hrow (by omega) (sz_bigS hz.sz))
  clear hrow hn hz hC2 hc1 hc2
  obtain ⟨LL, hLL⟩ : ∃ LL, ts.length = LL := ⟨_, rfl⟩
  have HLL := hid hLL
  rw [hLL] at CC HN ⊢
  have hLL11 := HN.out
  go_wp2_with fail
  refine CC.out.mono ?_
  rintro e w3 ⟨vb, rfl, hb3⟩
  obtain ⟨ab, cb, rfl, hsh⟩ := hb3.shape HZ.out
  have HB3 := hid hb3.bel
  have HSH := hid hsh
  rw [hLL] at HSH ⊢
  clear hb3 hsh CC hLL
  go_wp2_with fail
  go_loopw [7] (fun v7 wr => ∃ i : Nat, v7 = .int .i64 (i : Int) ∧ i ≤ LL ∧ Hid (ShapeR w2.heap.size wr 40 ab LL) ∧ Hid (Below w2.heap.size w2 wr)) (fun k _ => LL - (intOf k).toNat)
  case atStart => exact ⟨0, rfl, Nat.zero_le _, HSH.out, HB3.out⟩
  case round =>
    clear HSH HB3
    obtain ⟨i, rfl, hi, HSR, HB⟩ := hrel
    by_cases hlt : i < LL
    · have hin : (i : Int) < (LL : Int) := by omega
      obtain ⟨gb, go, kk, aa, nA, ca, rfl, hgl, q0, q1, q2, hnA, q3, hst⟩ := HSR.out i hlt
      have HST := hid hst
      have HGL := hid hgl
      have HQ2 := hid q2
      clear q0 q1 q3 hst hgl
      by_cases hn1 : nA ≤ 1
      · have hd : ¬ (1 : Int) < (nA : Int) := by omega
        go_wp2_with fail
        go_roundw
        case rel => exact ⟨i + 1, by go_num, by omega, HSR.out, HB.out⟩
        case measure => simp [intOf]; omega
      · obtain ⟨q, rfl⟩ : ∃ q, nA = q + 2 := ⟨nA - 2, by omega⟩
        have hd : (1 : Int) < ((q + 2 : Nat) : Int) := by omega
        obtain ⟨b0, o0, rfl, ⟨hb0, hb1⟩, ⟨s0, s01, s02, s03⟩, ⟨t0, t01, t02, t03⟩⟩ := HST.out 0 (by omega)
        obtain ⟨b1, o1, e1, _, ⟨s1, s11, s12, s13⟩, ⟨t1, t11, t12, t13⟩⟩ := HST.out (q + 1) (by omega)
        obtain ⟨rfl, rfl⟩ : b0 = b1 ∧ o0 = o1 := by cases e1; exact ⟨rfl, rfl⟩
        clear e1
        simp only [Nat.zero_mul, Nat.add_zero] at s01 s03 t01 t03
        have HS0 := hid (show StrC wr 40 ⟨b0, o0, none⟩ from ⟨s0, s01, s02, s03⟩)
        have HT0 := hid (show StrC wr 40 ⟨b0, o0 + 1, none⟩ from ⟨t0, t01, t02, t03⟩)
        have HS1 := hid (show StrC wr 40 ⟨b0, o0 + (q + 1) * 2, none⟩ from ⟨s1, s11, s12, s13⟩)
        have HT1 := hid (show StrC wr 40 ⟨b0, o0 + (q + 1) * 2 + 1, none⟩ from ⟨t1, t11, t12, t13⟩)
        have HZS := hid (And.intro (And.intro s02 t02) (And.intro s12 t12))
        have HBX := hid ((Below.refl wr.heap.size wr).alloc (Nat.le_refl _) (.cells #[.string s0, .string t0] 42))
        have MX := hid (heap_alloc_new wr (.cells #[.string s0, .string t0] 42))
        have hq1 : ((q + 2 : Nat) : Int) - 1 = ((q + 1 : Nat) : Int) := by omega
        have hq2 : ((q + 1 : Nat) : Int) < ((q + 2 : Nat) : Int) := by omega
        go_wp2_with fail
        obtain ⟨wx, hwx⟩ : ∃ wx, wr.alloc (.cells #[.string s0, .string t0] 42) = wx := ⟨_, rfl⟩
        simp only [hwx]
        rw [hwx] at HBX MX
        have hxs : wr.heap.size < wx.heap.size := lt_of_heap MX.out
        have q2' := (HBX.out.cell (p := ⟨gb, go + i * 4 + 2, none⟩) HGL.out).trans HQ2.out
        have HS0' := hid (HS0.out.below HBX.out hb1)
        have HT0' := hid (HT0.out.below HBX.out hb1)
        have x1 := (HBX.out.cell (p := ⟨b0, o0 + (q + 1) * 2, none⟩) hb1).trans s11
        have x2 := (HBX.out.cell (p := ⟨b0, o0 + (q + 1) * 2 + 1, none⟩) hb1).trans t11
        obtain ⟨y1, y11, y12, y13⟩ := HS0'.out
        obtain ⟨y2, y21, y22, y23⟩ := HT0'.out
        clear hwx s01 s02 s03 t01 t02 t03 s11 s12 s13 t11 t12 t13
        go_region
        all_goals go_wp2_with fail
        clear y1 y11 y12 y13 y2 y21 y22 y23 x1 x2
        obtain ⟨W1, hW1⟩ : ∃ W1, ((wx.setCell ⟨b0, o0, none⟩ (.string s1)).setCell ⟨b0, o0 + 1, none⟩ (.string t1)).drew = W1 := ⟨_, rfl⟩
        simp only [hW1]
        have w1a := wrote_set (s := s1) HS0'.out HZS.out.2.1
        have HWR := hid (show Wrote 40 wx W1 by rw [← hW1]; exact (w1a.trans (wrote_set (s := t1) (w1a.str _ HT0'.out) HZS.out.2.2)).drew)
        have HBW := hid (show Below w2.heap.size w2 W1 by
          rw [← hW1]
          refine Below.drew ?_
          iterate 2 refine Below.setCell ?_ hb0 _
          exact bb HB.out HBX.out)
        have nb : ∀ j, ¬ (⟨b0, o0 + 1, none⟩ : Addr) = ⟨wr.heap.size, j, none⟩ := fun j e => by injection e with e; omega
        have nb' : ∀ j, ¬ (⟨b0, o0, none⟩ : Addr) = ⟨wr.heap.size, j, none⟩ := fun j e => by injection e with e; omega
        have z1 : W1.cell? ⟨wr.heap.size, 0, none⟩ = some (.string s0) := by
          rw [← hW1]
          show ((wx.setCell ⟨b0, o0, none⟩ (.string s1)).setCell ⟨b0, o0 + 1, none⟩ (.string t1)).cell? _ = _
          rw [World.cell?_setCell_other _ _ _ _ (nb 0), World.cell?_setCell_other _ _ _ _ (nb' 0)]
          exact (box2e MX.out).1.1
        have z2 : W1.cell? ⟨wr.heap.size, 1, none⟩ = some (.string t0) := by
          rw [← hW1]
          show ((wx.setCell ⟨b0, o0, none⟩ (.string s1)).setCell ⟨b0, o0 + 1, none⟩ (.string t1)).cell? _ = _
          rw [World.cell?_setCell_other _ _ _ _ (nb 1), World.cell?_setCell_other _ _ _ _ (nb' 1)]
          exact (box2e MX.out).1.2
        have q2'' := HWR.out.oth _ _ q2' (fun s e => by cases e)
        have HS1' := hid (HWR.out.str _ (HS1.out.below HBX.out hb1))
        have HT1' := hid (HWR.out.str _ (HT1.out.below HBX.out hb1))
        obtain ⟨y1, y11, y12, y13⟩ := HS1'.out
        obtain ⟨y2, y21, y22, y23⟩ := HT1'.out
        clear hW1 q2' w1a nb nb' HS0' HT0'
        go_region
        all_goals go_wp2_with fail
        have w2a := wrote_set (s := s0) HS1'.out HZS.out.1.1
        have HWR2 := hid ((w2a.trans (wrote_set (s := t0) (w2a.str _ HT1'.out) HZS.out.1.2)).drew)
        have HSF := hid (((HSR.out.below HBX.out).wrote HWR.out).wrote HWR2.out)
        clear w2a
        go_roundw
        case rel =>
          refine ⟨i + 1, by go_num, by omega, HSF.out, ?_⟩
          show Below _ _ _
          refine Below.drew ?_
          iterate 2 refine Below.setCell ?_ hb0 _
          exact HBW.out
        case measure => simp [intOf]; omega
    · have hin : ¬ (i : Int) < (LL : Int) := by omega
      obtain ⟨us, hul, hur, huz⟩ := HSR.out.row
      have HUR := hid hur
      have HUZ := hid huz
      have HUL := hid hul
      have HTr := hid (HT.out.below HB.out)
      have HCr := hid (HC2.out.belowS HB.out)
      clear hul hur huz HSR
      go_wp2_with fail
      refine (cOnce 4 w a len cap _ _ hlen HR.out HCr.out (by omega) (by omega)).mono ?_
      rintro e w4 ⟨qq, rfl, hC4, hG4⟩
      have HC4 := hid hC4
      have HT4 := hid (tk_keep HTr.out HCr.out hG4)
      have HU4 := hid (tk_keep HUR.out HCr.out hG4)
      have HB4 := hid hC4.2.1
      clear hC4 hG4
      cases qq with
      | true =>
        go_wp2_with fail
        refine (cDrawAny w a len cap _ _ hlen HR.out HC4.out).mono ?_
        rintro e w5 ⟨a5, c5, vs, rfl, hrow, hn, hz, hC5, hG5, _, _⟩
        have HT5 := hid (tk_keep HT4.out HC4.out hG5)
        have H5 := hid (And.intro hrow (And.intro hn hz.sz))
        have HB5 := hid hC5.2.1
        clear hrow hn hz hC5 hG5
        go_wp2_with fail
        go_ret2
        exact ⟨a', c', ts, a5, c5, vs, by rw [HLL.out]; rfl, HT5.out, by rw [HLL.out]; exact HN.out, HZ.out, H5.out.1, H5.out.2.1, H5.out.2.2, HB5.out⟩
      | false =>
        go_wp2_with fail
        go_ret2
        exact ⟨a', c', ts, ab, cb, us, by rw [HLL.out, HUL.out]; rfl, HT4.out, by rw [HLL.out]; exact HN.out, HZ.out, HU4.out, by rw [HUL.out]; exact HN.out, HUZ.out, HB4.out⟩

end Go.Proofs.YtmghipjpgoghlaaGreat
