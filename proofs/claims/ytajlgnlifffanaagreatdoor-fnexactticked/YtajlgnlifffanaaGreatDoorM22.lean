/- The mathematics of a gate that grows later. Contracts of the specification's l16Sweep, Swept. -/
import Derived.Test.YtajlgnlifffanaaGreatDoorM17
import Derived.Test.YtajlgnlifffanaaGreatDoorM20
import Derived.Test.YtajlgnlifffanaaGreatDoorM21
import Derived.Test.YtajlgnlifffanaaGreatDoorM12
namespace Go.Proofs.YtajlgnlifffanaaGreatDoor
open Go.RowKit
set_option linter.unusedVariables false
set_option linter.unusedSimpArgs false

/-- A gate at that time: both tables swept. -/
def lateG (g : Gt) (n : Int) : Gt := ⟨g.name, g.hands, g.skew, n, ⟨g.ask.most, sweepR g.ask.rows n⟩, ⟨g.hrd.most, sweepR g.hrd.rows n⟩⟩

/-- What Ticked tells. -/
noncomputable def tickG (g : Gt) (d : Int) : Gt × Bool :=
  if gateB g = true then (if 0 ≤ d ∧ d ≤ 3155759999 then (lateG g (laterOf g.now d), true) else (g, false)) else (zeroG, false)

theorem tickG_bad {g : Gt} {d : Int} (h : gateB g = false) : tickG g d = (zeroG, false) := if_neg (by rw [h]; exact Bool.false_ne_true)
theorem tickG_no {g : Gt} {d : Int} (h : gateB g = true) (hd : ¬ (0 ≤ d ∧ d ≤ 3155759999)) : tickG g d = (g, false) := by
  unfold tickG
  rw [if_pos h, if_neg hd]
theorem tickG_yes {g : Gt} {d : Int} (h : gateB g = true) (hd : 0 ≤ d ∧ d ≤ 3155759999) : tickG g d = (lateG g (laterOf g.now d), true) := by
  unfold tickG
  rw [if_pos h, if_pos hd]

theorem later_in {t d : Int} (ht : 0 ≤ t ∧ t ≤ 3155759999) (hd : 0 ≤ d ∧ d ≤ 3155759999) : 0 ≤ laterOf t d ∧ laterOf t d ≤ 3155759999 := by
  unfold laterOf
  repeat' split
  all_goals omega

theorem later_out {t d : Int} (h0 : 0 ≤ d) (hd : ¬ d ≤ 3155759999) : laterOf t d = -1 := by
  unfold laterOf
  rw [if_neg (by omega)]

theorem gate_p {g : Gt} (h : gateB g = true) : g.hands.length ≤ 4 ∧ (0 ≤ g.now ∧ g.now ≤ 3155759999) ∧ tableB g.ask = true ∧ tableB g.hrd = true := by
  unfold gateB at h
  simp only [Bool.and_eq_true] at h
  obtain ⟨_, h1, _, h3, h4, h5⟩ := h
  refine ⟨(handsB_p h1).1, ?_, h4, h5⟩
  unfold utmB at h3
  simpa using h3

theorem gate_rows {g : Gt} (h : gateB g = true) : g.hands.length ≤ 100000 ∧ g.ask.rows.length ≤ 100000 ∧ g.hrd.rows.length ≤ 100000 := by
  obtain ⟨h1, _, h2, h3⟩ := gate_p h
  exact ⟨Nat.le_trans h1 (by decide), Nat.le_trans (tableB_len h2) (by decide), Nat.le_trans (tableB_len h3) (by decide)⟩

end Go.Proofs.YtajlgnlifffanaaGreatDoor

namespace Go.Proofs.YtajlgnlifffanaaGreatDoor
open Go.RowKit
set_option linter.unusedVariables false
set_option linter.unusedSimpArgs false

theorem sweep_more {l : List Ro} {i : Nat} {now : Int} (h : i < l.length) (hc : now < l[i].til) : sweepR (l.take (i + 1)) now = sweepR (l.take i) now ++ [⟨l[i].id, l[i].til⟩] := by
  unfold sweepR
  rw [take_snocN h, List.filter_append]
  congr 1
  show [l[i]].filter _ = _
  rw [List.filter_cons_of_pos (by simpa using hc)]
  rfl

theorem sweep_same {l : List Ro} {i : Nat} {now : Int} (h : i < l.length) (hc : ¬ now < l[i].til) : sweepR (l.take (i + 1)) now = sweepR (l.take i) now := by
  unfold sweepR
  rw [take_snocN h, List.filter_append]
  have : [l[i]].filter (fun x => decide (now < x.til)) = [] := by rw [List.filter_cons_of_neg (by simpa using hc)]; rfl
  rw [this, List.append_nil]

theorem sweep_len (l : List Ro) (now : Int) : (sweepR l now).length ≤ l.length := List.length_filter_le _ _

theorem own_neP {w : World} {B P n : Nat} {v : Value} {xs : List Value} {e : TypeId} {s : Nat} (h : w.ownsRow B e s v n xs) (hP : P < B) : v.ownBlock ≠ some P := fun e => by
  have h1 := (h.lt P e).1
  omega

theorem set1_heap {w : World} {R : Nat} {x y v : Value} {T : TypeId} (h : w.heap[R]? = some (.cells #[x, y] T (0, 0))) : (w.setCell ⟨R, 1, none⟩ v).heap[R]? = some (.cells #[x, v] T (0, 0)) := by
  have h1 := u_heap_set (i := 1) h v
  simpa using h1

theorem own_row2 {w : World} {B n : Nat} {a : Option Addr} {c : Nat} {l : List Ro} (h : w.ownsRow B 83 2 (.slice a n c) l.length (roC l)) : RoRow w a l := by
  obtain ⟨a', c', e, ho⟩ := own_ro h rfl
  cases e
  exact ho.row

/-- What l16Sweep leaves. -/
def SweepPost (P B : Nat) (m : Int) (l : List Ro) (w : World) (e : Ending) (w' : World) : Prop :=
  ∃ v', e = .returned (.tuple #[]) ∧ w'.heap[P]? = some (.cells #[.int .i64 m, v'] 27 (0, 0)) ∧ w'.ownsRow B 83 2 v' l.length (roC l) ∧ u_KeepB (fun b => b = P) w w'

set_option maxRecDepth 8000 in
set_option maxHeartbeats 8000000 in
theorem cSweepS (P B g c : Nat) (m : Int) (l : List Ro) (now : Int) (w : World) (hP : w.heap[P]? = some (.cells #[.int .i64 m, .slice (some ⟨g, 0, none⟩) l.length c] 27 (0, 0)))
    (hO : RoOwn w B g c l) (hn : l.length ≤ 100000) (hB : B ≤ w.heap.size) (hPB : P < w.heap.size) :
    Calls Tryz.prog 48 #[.pointer (some ⟨P, 0, none⟩), .int .i64 now] w (SweepPost P B m (sweepR l now) w) := by
  obtain ⟨i0, hi, hz0, hz1, hz2⟩ := info_parts infoRoW
  have HI := hid (And.intro hi (And.intro hz0 (And.intro hz1 hz2)))
  have HP := hid hP
  have HR := hid hO.row
  have HBB := hid hB
  have HPL := hid hPB
  clear hi hz0 hz1 hz2 hO hB hPB
  obtain ⟨n, hnn⟩ : ∃ n, l.length = n := ⟨_, rfl⟩
  have HN := hid hnn
  rw [hnn] at hn HP hP
  clear hnn
  obtain ⟨⟨f0, f1⟩, f2, f3⟩ := u_box2f hP
  clear hP
  have HB0 := hid ((Below.refl w.heap.size w).alloc (Nat.le_refl _) (.cells #[] 83))
  have HO0 := hid (u_own_new w 83 2)
  go_enter Tryz.func48, Tryz.ntmps48
  go_wp2_with fail
  clear f0 f1 f2 f3
  go_loopw [4, 5] (fun v k wr => ∃ i : Nat, k = .int .i64 (i : Int) ∧ i ≤ n ∧ Hid (wr.ownsRow w.heap.size 83 2 v (sweepR (l.take i) now).length (roC (sweepR (l.take i) now))) ∧ Hid (Below w.heap.size w wr)) (fun _ k _ => n - (intOf k).toNat)
  case atStart => exact ⟨0, rfl, Nat.zero_le _, HO0.out, HB0.out⟩
  case round =>
    clear HO0 HB0
    obtain ⟨i, rfl, hin, HO, HB⟩ := hrel
    obtain ⟨⟨f0, f1⟩, f2, f3⟩ := u_box2f (u_blk_below HP.out HB.out)
    by_cases hlt : i < n
    case neg =>
      have hie : i = n := by omega
      subst hie
      have HO2 := HO.out
      rw [List.take_of_length_le (by rw [HN.out]; exact Nat.le_refl _)] at HO2
      have HOA := hid HO2
      have HPA := hid (u_blk_below HP.out HB.out)
      clear HO2 HO
      obtain ⟨a5, c5, hv5⟩ := u_own_len HOA.out
      subst hv5
      go_wp2_with fail
      have hne := own_neP HOA.out HPL.out
      go_end0
      refine ⟨_, rfl, ?_, u_own_base (u_own_set HOA.out hne _ _) HBB.out, (u_KeepB.of_below _ HB.out).trans (u_KeepB.of_set _ _ _ rfl)⟩
      exact set1_heap HPA.out
    have his : i < l.length := by rw [HN.out]; exact hlt
    have hinn : (i : Int) < (n : Int) := by omega
    have HSL := hid (show (sweepR (l.take i) now).length ≤ 100000 from Nat.le_trans (sweep_len _ _) (by rw [List.length_take]; omega))
    obtain ⟨b, o, hbo, hb, c1, c2⟩ := (HR.out.below HB.out) i his
    cases hbo
    simp only [Nat.zero_add] at c1 c2
    by_cases hc : now < l[i].til
    case neg =>
      have HX := hid (sweep_same his hc)
      have hc' : ¬ now < l[i].til := hc
      generalize l[i].id = x at *
      generalize l[i].til = y at *
      go_wp2_with fail
      go_roundw
      case rel => exact ⟨i + 1, by go_num, by omega, by rw [HX.out]; exact HO.out, HB.out⟩
      case measure => simp [intOf]; omega
    have HX := hid (sweep_more his hc)
    generalize l[i].id = x at *
    generalize l[i].til = y at *
    have hws := HB.out.size
    obtain ⟨sl, hsl⟩ : ∃ sl, (sweepR (l.take i) now).length = sl := ⟨_, rfl⟩
    obtain ⟨sr, hsr⟩ : ∃ sr, sweepR (l.take i) now = sr := ⟨_, rfl⟩
    have HSR := hid hsl
    rw [hsl] at HO HSL
    rw [hsr] at HO HX HSR
    clear hsl hsr
    obtain ⟨a5, c5, hv5⟩ := u_own_len HO.out
    subst hv5
    have HA := hid ((Below.refl wr.heap.size wr).alloc (Nat.le_refl _) (.cells #[.string x, .int .i64 y] 83))
    have HB4 := hid (bb HB.out HA.out)
    have HO3 := hid (ownsRow_below HO.out HA.out)
    have HN3 := hid (u_Rd.new wr 83 2 (roC [⟨x, y⟩]) 1 rfl)
    clear HO HA
    go_wp2_with (at_builtin; refine wpList_append_own_at _ rfl _ _ 25 rfl w.heap.size 83 i0 _ 2 24 Tryz.underlying25 HI.out.1 HI.out.2.1 HI.out.2.2.1 HI.out.2.2.2 rfl (by decide) _ sl (roC sr) rfl HO3.out ⟨wr.heap.size, 0, none⟩ 1 1 (roC [⟨x, y⟩]) rfl rfl (fun j u hj => by obtain ⟨b', o', c', e', _, _, h4⟩ := HN3.out.at_; cases e'; rw [u_add_plainW]; exact h4 j u hj) (roC_one _) (by have := HSL.out; unfold maxLen; omega) (by have := HSL.out; omega) HB4.out.size ?_)
    intro v' w4 ho4 hg4 _ _
    have HO4 := hid ho4
    have HB5 := hid (HB4.out.grown hg4 HB4.out.size (fun k e => (HO3.out.lt k e).1))
    clear ho4 hg4 HN3 HO3
    go_wp2_with fail
    go_roundw
    case rel => exact ⟨i + 1, by go_num, by omega, by rw [HX.out, roC_app, List.length_append, HSR.out]; exact HO4.out, HB5.out⟩
    case measure => simp [intOf]; omega

theorem sweptT_f {t : Tb} {now : Int} (h : (tableB t && utmB now) = false) : sweptT t now = zeroT := if_neg (by rw [h]; exact Bool.false_ne_true)
theorem sweptT_t {t : Tb} {now : Int} (h : (tableB t && utmB now) = true) : sweptT t now = ⟨t.most, sweepR t.rows now⟩ := if_pos h

set_option maxRecDepth 8000 in
set_option maxHeartbeats 8000000 in
theorem cSweptS (t : Tb) (a : Option Addr) (cap : Nat) (now : Int) (w : World) (hR : RoRow w a t.rows) (hz : RoSz 1048576 t.rows) (hn : t.rows.length ≤ 1048576) :
    Calls Tryz.prog 17 #[tbV t a cap, .int .i64 now] w fun e w' => ∃ a' c', e = .returned (tbV (sweptT t now) a' c') ∧ RoRow w' a' (sweptT t now).rows ∧ Below w.heap.size w w' := by
  have CO := hid (fun wx (h : Below w.heap.size w wx) => cTableOkS t a cap wx (hR.below h) hz hn)
  have CT := hid (fun wx => cTimeS now wx)
  have hM : decide (0 ≤ now ∧ now ≤ 3155759999) = utmB now := rfl
  rw [hM] at CT
  clear hM
  have CC := hid (fun (h : tableB t = true) wx (hb : Below w.heap.size w wx) => cCopyS t a cap wx (hR.below hb) (Nat.le_trans (tableB_len h) (by decide)))
  have CE := hid (fun (h : tableB t = true) (P B g c : Nat) wx (hP : wx.heap[P]? = some (.cells #[.int .i64 t.most, .slice (some ⟨g, 0, none⟩) t.rows.length c] 27 (0, 0))) (hO : RoOwn wx B g c t.rows) (hB : B ≤ wx.heap.size) (hl : P < wx.heap.size) => cSweepS P B g c t.most t.rows now wx hP hO (Nat.le_trans (tableB_len h) (by decide)) hB hl)
  obtain ⟨b1, b2⟩ := u_heap2 w (.cells #[.int .i64 t.most, .slice a t.rows.length cap] 27) (.cells #[.int .i64 0, .slice none 0 0] 27)
  have HB0 := hid (((Below.refl w.heap.size w).alloc (Nat.le_refl _) (.cells #[.int .i64 t.most, .slice a t.rows.length cap] 27)).alloc (by simp) (.cells #[.int .i64 0, .slice none 0 0] 27))
  have HEF := hid (fun h => sweptT_f (t := t) (now := now) h)
  have HET := hid (fun h => sweptT_t (t := t) (now := now) h)
  obtain ⟨R, hRR⟩ : ∃ R, sweptT t now = R := ⟨_, rfl⟩
  rw [hRR]
  simp only [hRR] at HEF HET
  clear hRR hR hz hn
  obtain ⟨sr, hsr⟩ : ∃ sr, sweepR t.rows now = sr := ⟨_, rfl⟩
  simp only [hsr] at CE HET
  clear hsr
  unfold tbV at CO CC ⊢
  obtain ⟨n, hnn⟩ : ∃ n, t.rows.length = n := ⟨_, rfl⟩
  obtain ⟨m, hm⟩ : ∃ m, t.most = m := ⟨_, rfl⟩
  rw [hnn] at CO CC CE b1 b2 HB0 ⊢
  rw [hm] at CO CC CE b1 b2 HB0 HET ⊢
  obtain ⟨W0, hW0⟩ : ∃ W0, ((w.alloc (.cells #[.int .i64 m, .slice a n cap] 27)).alloc (.cells #[.int .i64 0, .slice none 0 0] 27)) = W0 := ⟨_, rfl⟩
  rw [hW0] at b1 b2 HB0
  obtain ⟨B, hB⟩ : ∃ B, w.heap.size = B := ⟨_, rfl⟩
  rw [hB] at b1 b2
  have HM1 := hid b1
  have HM2 := hid b2
  clear b1 b2 hnn hm
  obtain ⟨⟨f0, f1⟩, f2, f3⟩ := u_box2f HM1.out
  cases hT : tableB t with
  | false =>
    have HE := hid (HEF.out (by rw [hT]; rfl))
    rw [hT] at CO
    clear HEF HET CC CE CT hT
    go_enter Tryz.func17, Tryz.ntmps17
    go_wp2_with fail
    refine (CO.out _ HB0.out).mono ?_
    rintro e w1 ⟨rfl, hb1⟩
    have HB1 := hid (bb HB0.out hb1)
    obtain ⟨⟨y0, y1⟩, y2, y3⟩ := u_box2f (u_blk_below HM2.out hb1)
    clear hb1 CO hW0 f0 f1 f2 f3
    go_wp2_with fail
    refine bodyPost_ret (v := .agg #[.int .i64 0, .slice none 0 0]) (by simp [results, Tryz.results17, go_sem, y0, y1]) rfl ⟨none, 0, by rw [HE.out]; rfl, by rw [HE.out]; exact RoRow.nil _ _, ?_⟩
    iterate 2 refine Below.setCell ?_ (show w.heap.size ≤ B + 1 by omega) _
    exact HB1.out
  | true =>
  cases hU : utmB now with
  | false =>
    have HE := hid (HEF.out (by rw [hT, hU]; rfl))
    rw [hT] at CO
    rw [hU] at CT
    clear HEF HET CC CE hT hU
    go_enter Tryz.func17, Tryz.ntmps17
    go_wp2_with fail
    refine (CO.out _ HB0.out).mono ?_
    rintro e w1 ⟨rfl, hb1⟩
    have HB1 := hid (bb HB0.out hb1)
    obtain ⟨⟨y0, y1⟩, y2, y3⟩ := u_box2f (u_blk_below HM2.out hb1)
    clear hb1 CO hW0 f0 f1 f2 f3
    go_wp2_with fail
    refine (CT.out _).mono ?_
    rintro e w2 ⟨rfl, rfl⟩
    go_wp2_with fail
    refine bodyPost_ret (v := .agg #[.int .i64 0, .slice none 0 0]) (by simp [results, Tryz.results17, go_sem, y0, y1]) rfl ⟨none, 0, by rw [HE.out]; rfl, by rw [HE.out]; exact RoRow.nil _ _, ?_⟩
    iterate 2 refine Below.setCell ?_ (show w.heap.size ≤ B + 1 by omega) _
    exact HB1.out
  | true =>
    have CC2 := hid (CC.out hT)
    have CE2 := hid (CE.out hT)
    have HE := hid (HET.out (by rw [hT, hU]; rfl))
    rw [hT] at CO
    rw [hU] at CT
    clear CC CE hT hU HEF HET
    go_enter Tryz.func17, Tryz.ntmps17
    go_wp2_with fail
    refine (CO.out _ HB0.out).mono ?_
    rintro e w1 ⟨rfl, hb1⟩
    have HB2 := hid (bb HB0.out hb1)
    have HM12 := hid (u_blk_below HM1.out hb1)
    have HM22 := hid (u_blk_below HM2.out hb1)
    clear hb1 CO hW0 f0 f1 f2 f3
    obtain ⟨⟨f0, f1⟩, f2, f3⟩ := u_box2f HM12.out
    go_wp2_with fail
    refine (CT.out _).mono ?_
    rintro e w2 ⟨rfl, rfl⟩
    go_wp2_with fail
    refine (CC2.out _ HB2.out).mono ?_
    rintro e w4 ⟨g, c, rfl, ho4, hb4⟩
    have HX := hid ((Below.refl w4.heap.size w4).alloc (Nat.le_refl _) (.cells #[.int .i64 m, .slice (some ⟨g, 0, none⟩) n c] 27))
    have HN5 := hid (heap_alloc_new w4 (.cells #[.int .i64 m, .slice (some ⟨g, 0, none⟩) n c] 27))
    obtain ⟨w5, hw5⟩ : ∃ w5, w4.alloc (.cells #[.int .i64 m, .slice (some ⟨g, 0, none⟩) n c] 27) = w5 := ⟨_, rfl⟩
    rw [hw5] at HX HN5
    have HO5 := hid (ho4.below HX.out)
    have HM25 := hid (u_blk_below (u_blk_below HM22.out hb4) HX.out)
    have HB5 := hid (bb (bb HB2.out hb4) HX.out)
    have HBs := hid (show _ ≤ w5.heap.size from Nat.le_trans hb4.size HX.out.size)
    obtain ⟨P, hPP⟩ : ∃ P, w4.heap.size = P := ⟨_, rfl⟩
    have HPge := hid (show B + 1 < P by rw [← hPP]; exact lt_of_heap (u_blk_below HM22.out hb4))
    rw [hPP] at HN5
    clear hb4 ho4 HM12 f0 f1 f2 f3 HX
    go_wp2_with fail
    refine (CE2.out P _ g c w5 HN5.out HO5.out HBs.out (lt_of_heap HN5.out)).mono ?_
    rintro e w6 ⟨v6, rfl, hP6, ho6, hk6⟩
    obtain ⟨a6, c6, rfl⟩ := u_own_len ho6
    have HM26 := hid ((hk6.block (B + 1) (lt_of_heap HM25.out) (fun e => by have := HPge.out; omega)).trans HM25.out)
    have HB6 := hid (hk6.below (B := B) (by rw [← hB]; exact HB5.out.size) (fun k e => by have := HPge.out; omega))
    have HB7 := hid (show Below w.heap.size w w6 from HB5.out.trans (hB ▸ HB6.out))
    have HP6 := hid hP6
    have HX6 := hid (show ∀ u v, RoRow ((w6.setCell ⟨B + 1, 0, none⟩ u).setCell ⟨B + 1, 1, none⟩ v) a6 sr from fun u v => by
      have hne := own_neP ho6 (lt_of_heap HM22.out)
      exact own_row2 (u_own_set (u_own_set ho6 hne _ _) hne _ _))
    clear hk6 ho6 hP6 hw5 hPP HB6
    obtain ⟨⟨y0, y1⟩, y2, y3⟩ := u_box2f HM26.out
    obtain ⟨⟨z0, z1⟩, z2, z3⟩ := u_box2f HP6.out
    generalize hn6 : sr.length = n6 at *
    have HN6 := hid hn6
    clear hn6
    go_wp2_with fail
    refine bodyPost_ret (v := .agg #[.int .i64 m, .slice a6 n6 c6]) (by simp [results, Tryz.results17, go_sem, y0, y1]) rfl ⟨a6, c6, ?_, ?_, ?_⟩
    · rw [HE.out, ← HN6.out]
    · rw [HE.out]
      exact HX6.out _ _
    · iterate 2 refine Below.setCell ?_ (show w.heap.size ≤ B + 1 by omega) _
      exact HB7.out

end Go.Proofs.YtajlgnlifffanaaGreatDoor
