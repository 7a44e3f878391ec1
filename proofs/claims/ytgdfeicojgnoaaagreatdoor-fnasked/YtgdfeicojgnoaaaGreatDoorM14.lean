/- Contracts of the specification's l16Sweep, Swept. The specification's l17Copy and NewGate, whose rows are told with their room. Contracts of the drawing cursor: made, a byte, a number below another, a coin. What is drawn is some value in its range; nothing that was there turns but the cursor's own block. -/
import Derived.Test.YtgdfeicojgnoaaaGreatDoorM7
import Derived.Test.YtgdfeicojgnoaaaGreatDoorM13
import Derived.Test.YtgdfeicojgnoaaaGreatDoorRows
import Derived.Test.YtgdfeicojgnoaaaGreatDoorM1
import Derived.WalkKit
import Derived.OwnWalk
import Derived.Lib.BufferWrite
import Derived.Deep.QuietTactic
import Derived.BigQuiet
namespace Go.Proofs.YtgdfeicojgnoaaaGreatDoor
open Go.RowKit
set_option linter.unusedVariables false
set_option linter.unusedSimpArgs false

theorem sweep_more {l : List Ro} {i : Nat} {now : Int} (h : i < l.length) (hc : now < l[i].til) : sweepR (l.take (i + 1)) now = sweepR (l.take i) now ++ [⟨l[i].id, l[i].til⟩] := by
  unfold sweepR
  rw [take_snocN h, List.filter_append]
  congr 1
  show [l[i]].filter _ = _
  rw [List.filter_cons_of_pos (by simpa using hc)]
  rfl

theorem sweep_same {l : List Ro} {i : Nat} {now : Int} (h : i < l.length) (hc : ¬ now < l[i].til) : sweepR (l.take (i + 1)) now = sweepR (l.take i) now := by
  unfold sweepR
  rw [take_snocN h, List.filter_append]
  have : [l[i]].filter (fun x => decide (now < x.til)) = [] := by rw [List.filter_cons_of_neg (by simpa using hc)]; rfl
  rw [this, List.append_nil]

theorem sweep_len (l : List Ro) (now : Int) : (sweepR l now).length ≤ l.length := List.length_filter_le _ _

theorem own_neP {w : World} {B P n : Nat} {v : Value} {xs : List Value} {e : TypeId} {s : Nat} (h : w.ownsRow B e s v n xs) (hP : P < B) : v.ownBlock ≠ some P := fun e => by
  have h1 := (h.lt P e).1
  omega

theorem set1_heap {w : World} {R : Nat} {x y v : Value} {T : TypeId} (h : w.heap[R]? = some (.cells #[x, y] T (0, 0))) : (w.setCell ⟨R, 1, none⟩ v).heap[R]? = some (.cells #[x, v] T (0, 0)) := by
  have h1 := u_heap_set (i := 1) h v
  simpa using h1

theorem own_row2 {w : World} {B n : Nat} {a : Option Addr} {c : Nat} {l : List Ro} (h : w.ownsRow B 83 2 (.slice a n c) l.length (roC l)) : RoRow w a l := by
  obtain ⟨a', c', e, ho⟩ := own_ro h rfl
  cases e
  exact ho.row

/-- What l16Sweep leaves. -/
def SweepPost (P B : Nat) (m : Int) (l : List Ro) (w : World) (e : Ending) (w' : World) : Prop :=
  ∃ v', e = .returned (.tuple #[]) ∧ w'.heap[P]? = some (.cells #[.int .i64 m, v'] 27 (0, 0)) ∧ w'.ownsRow B 83 2 v' l.length (roC l) ∧ u_KeepB (fun b => b = P) w w'

set_option maxRecDepth 8000 in
set_option maxHeartbeats 8000000 in
theorem cSweepS (P B g c : Nat) (m : Int) (l : List Ro) (now : Int) (w : World) (hP : w.heap[P]? = some (.cells #[.int .i64 m, .slice (some ⟨g, 0, none⟩) l.length c] 27 (0, 0)))
    (hO : RoOwn w B g c l) (hn : l.length ≤ 100000) (hB : B ≤ w.heap.size) (hPB : P < w.heap.size) :
    Calls Tryz.prog 48 #[.pointer (some ⟨P, 0, none⟩), .int .i64 now] w (SweepPost P B m (sweepR l now) w) := by
  obtain ⟨i0, hi, hz0, hz1, hz2⟩ := info_parts infoRoW
  have HI := hid (And.intro hi (And.intro hz0 (And.intro hz1 hz2)))
  have HP := hid hP
  have HR := hid hO.row
  have HBB := hid hB
  have HPL := hid hPB
  clear hi hz0 hz1 hz2 hO hB hPB
  obtain ⟨n, hnn⟩ : ∃ n, l.length = n := ⟨_, rfl⟩
  have HN := hid hnn
  rw [hnn] at hn HP hP
  clear hnn
  obtain ⟨⟨f0, f1⟩, f2, f3⟩ := u_box2f hP
  clear hP
  have HB0 := hid ((Below.refl w.heap.size w).alloc (Nat.le_refl _) (.cells #[] 83))
  have HO0 := hid (u_own_new w 83 2)
  go_enter Tryz.func48, Tryz.ntmps48
  go_wp2_with fail
  clear f0 f1 f2 f3
  go_loopw [4, 5] (fun v k wr => ∃ i : Nat, k = .int .i64 (i : Int) ∧ i ≤ n ∧ Hid (wr.ownsRow w.heap.size 83 2 v (sweepR (l.take i) now).length (roC (sweepR (l.take i) now))) ∧ Hid (Below w.heap.size w wr)) (fun _ k _ => n - (intOf k).toNat)
  case atStart => exact ⟨0, rfl, Nat.zero_le _, HO0.out, HB0.out⟩
  case round =>
    clear HO0 HB0
    obtain ⟨i, rfl, hin, HO, HB⟩ := hrel
    obtain ⟨⟨f0, f1⟩, f2, f3⟩ := u_box2f (u_blk_below HP.out HB.out)
    by_cases hlt : i < n
    case neg =>
      have hie : i = n := by omega
      subst hie
      have HO2 := HO.out
      rw [List.take_of_length_le (by rw [HN.out]; exact Nat.le_refl _)] at HO2
      have HOA := hid HO2
      have HPA := hid (u_blk_below HP.out HB.out)
      clear HO2 HO
      obtain ⟨a5, c5, hv5⟩ := u_own_len HOA.out
      subst hv5
      go_wp2_with fail
      have hne := own_neP HOA.out HPL.out
      go_end0
      refine ⟨_, rfl, ?_, u_own_base (u_own_set HOA.out hne _ _) HBB.out, (u_KeepB.of_below _ HB.out).trans (u_KeepB.of_set _ _ _ rfl)⟩
      exact set1_heap HPA.out
    have his : i < l.length := by rw [HN.out]; exact hlt
    have hinn : (i : Int) < (n : Int) := by omega
    have HSL := hid (show (sweepR (l.take i) now).length ≤ 100000 from Nat.le_trans (sweep_len _ _) (by rw [List.length_take]; omega))
    obtain ⟨b, o, hbo, hb, c1, c2⟩ := (HR.out.below HB.out) i his
    cases hbo
    simp only [Nat.zero_add] at c1 c2
    by_cases hc : now < l[i].til
    case neg =>
      have HX := hid (sweep_same his hc)
      have hc' : ¬ now < l[i].til := hc
      generalize l[i].id = x at *
      generalize l[i].til = y at *
      go_wp2_with fail
      go_roundw
      case rel => exact ⟨i + 1, by go_num, by omega, by rw [HX.out]; exact HO.out, HB.out⟩
      case measure => simp [intOf]; omega
    have HX := hid (sweep_more his hc)
    generalize l[i].id = x at *
    generalize l[i].til = y at *
    have hws := HB.out.size
    obtain ⟨sl, hsl⟩ : ∃ sl, (sweepR (l.take i) now).length = sl := ⟨_, rfl⟩
    obtain ⟨sr, hsr⟩ : ∃ sr, sweepR (l.take i) now = sr := ⟨_, rfl⟩
    have HSR := hid hsl
    rw [hsl] at HO HSL
    rw [hsr] at HO HX HSR
    clear hsl hsr
    obtain ⟨a5, c5, hv5⟩ := u_own_len HO.out
    subst hv5
    have HA := hid ((Below.refl wr.heap.size wr).alloc (Nat.le_refl _) (.cells #[.string x, .int .i64 y] 83))
    have HB4 := hid (bb HB.out HA.out)
    have HO3 := hid (ownsRow_below HO.out HA.out)
    have HN3 := hid (u_Rd.new wr 83 2 (roC [⟨x, y⟩]) 1 rfl)
    clear HO HA
    go_wp2_with (at_builtin; refine wpList_append_own_at _ rfl _ _ 25 rfl w.heap.size 83 i0 _ 2 24 Tryz.underlying25 HI.out.1 HI.out.2.1 HI.out.2.2.1 HI.out.2.2.2 rfl (by decide) _ sl (roC sr) rfl HO3.out ⟨wr.heap.size, 0, none⟩ 1 1 (roC [⟨x, y⟩]) rfl rfl (fun j u hj => by obtain ⟨b', o', c', e', _, _, h4⟩ := HN3.out.at_; cases e'; rw [u_add_plainW]; exact h4 j u hj) (roC_one _) (by have := HSL.out; unfold maxLen; omega) (by have := HSL.out; omega) HB4.out.size ?_)
    intro v' w4 ho4 hg4 _ _
    have HO4 := hid ho4
    have HB5 := hid (HB4.out.grown hg4 HB4.out.size (fun k e => (HO3.out.lt k e).1))
    clear ho4 hg4 HN3 HO3
    go_wp2_with fail
    go_roundw
    case rel => exact ⟨i + 1, by go_num, by omega, by rw [HX.out, roC_app, List.length_append, HSR.out]; exact HO4.out, HB5.out⟩
    case measure => simp [intOf]; omega

theorem sweptT_f {t : Tb} {now : Int} (h : (tableB t && utmB now) = false) : sweptT t now = zeroT := if_neg (by rw [h]; exact Bool.false_ne_true)
theorem sweptT_t {t : Tb} {now : Int} (h : (tableB t && utmB now) = true) : sweptT t now = ⟨t.most, sweepR t.rows now⟩ := if_pos h

set_option maxRecDepth 8000 in
set_option maxHeartbeats 8000000 in
theorem cSweptS (t : Tb) (a : Option Addr) (cap : Nat) (now : Int) (w : World) (hR : RoRow w a t.rows) (hz : RoSz 1048576 t.rows) (hn : t.rows.length ≤ 1048576) :
    Calls Tryz.prog 17 #[tbV t a cap, .int .i64 now] w fun e w' => ∃ a' c', e = .returned (tbV (sweptT t now) a' c') ∧ RoRow w' a' (sweptT t now).rows ∧ Below w.heap.size w w' := by
  have CO := hid (fun wx (h : Below w.heap.size w wx) => cTableOkS t a cap wx (hR.below h) hz hn)
  have CT := hid (fun wx => cTimeS now wx)
  have hM : decide (0 ≤ now ∧ now ≤ 3155759999) = utmB now := rfl
  rw [hM] at CT
  clear hM
  have CC := hid (fun (h : tableB t = true) wx (hb : Below w.heap.size w wx) => cCopyS t a cap wx (hR.below hb) (Nat.le_trans (tableB_len h) (by decide)))
  have CE := hid (fun (h : tableB t = true) (P B g c : Nat) wx (hP : wx.heap[P]? = some (.cells #[.int .i64 t.most, .slice (some ⟨g, 0, none⟩) t.rows.length c] 27 (0, 0))) (hO : RoOwn wx B g c t.rows) (hB : B ≤ wx.heap.size) (hl : P < wx.heap.size) => cSweepS P B g c t.most t.rows now wx hP hO (Nat.le_trans (tableB_len h) (by decide)) hB hl)
  obtain ⟨b1, b2⟩ := u_heap2 w (.cells #[.int .i64 t.most, .slice a t.rows.length cap] 27) (.cells #[.int .i64 0, .slice none 0 0] 27)
  have HB0 := hid (((Below.refl w.heap.size w).alloc (Nat.le_refl _) (.cells #[.int .i64 t.most, .slice a t.rows.length cap] 27)).alloc (by simp) (.cells #[.int .i64 0, .slice none 0 0] 27))
  have HEF := hid (fun h => sweptT_f (t := t) (now := now) h)
  have HET := hid (fun h => sweptT_t (t := t) (now := now) h)
  obtain ⟨R, hRR⟩ : ∃ R, sweptT t now = R := ⟨_, rfl⟩
  rw [hRR]
  simp only [hRR] at HEF HET
  clear hRR hR hz hn
  obtain ⟨sr, hsr⟩ : ∃ sr, sweepR t.rows now = sr := ⟨_, rfl⟩
  simp only [hsr] at CE HET
  clear hsr
  unfold tbV at CO CC ⊢
  obtain ⟨n, hnn⟩ : ∃ n, t.rows.length = n := ⟨_, rfl⟩
  obtain ⟨m, hm⟩ : ∃ m, t.most = m := ⟨_, rfl⟩
  rw [hnn] at CO CC CE b1 b2 HB0 ⊢
  rw [hm] at CO CC CE b1 b2 HB0 HET ⊢
  obtain ⟨W0, hW0⟩ : ∃ W0, ((w.alloc (.cells #[.int .i64 m, .slice a n cap] 27)).alloc (.cells #[.int .i64 0, .slice none 0 0] 27)) = W0 := ⟨_, rfl⟩
  rw [hW0] at b1 b2 HB0
  obtain ⟨B, hB⟩ : ∃ B, w.heap.size = B := ⟨_, rfl⟩
  rw [hB] at b1 b2
  have HM1 := hid b1
  have HM2 := hid b2
  clear b1 b2 hnn hm
  obtain ⟨⟨f0, f1⟩, f2, f3⟩ := u_box2f HM1.out
  cases hT : tableB t with
  | false =>
    have HE := hid (HEF.out (by rw [hT]; rfl))
    rw [hT] at CO
    clear HEF HET CC CE CT hT
    go_enter Tryz.func17, Tryz.ntmps17
    go_wp2_with fail
    refine (CO.out _ HB0.out).mono ?_
    rintro e w1 ⟨rfl, hb1⟩
    have HB1 := hid (bb HB0.out hb1)
    obtain ⟨⟨y0, y1⟩, y2, y3⟩ := u_box2f (u_blk_below HM2.out hb1)
    clear hb1 CO hW0 f0 f1 f2 f3
    go_wp2_with fail
    refine bodyPost_ret (v := .agg #[.int .i64 0, .slice none 0 0]) (by simp [results, Tryz.results17, go_sem, y0, y1]) rfl ⟨none, 0, by rw [HE.out]; rfl, by rw [HE.out]; exact RoRow.nil _ _, ?_⟩
    iterate 2 refine Below.setCell ?_ (show w.heap.size ≤ B + 1 by omega) _
    exact HB1.out
  | true =>
  cases hU : utmB now with
  | false =>
    have HE := hid (HEF.out (by rw [hT, hU]; rfl))
    rw [hT] at CO
    rw [hU] at CT
    clear HEF HET CC CE hT hU
    go_enter Tryz.func17, Tryz.ntmps17
    go_wp2_with fail
    refine (CO.out _ HB0.out).mono ?_
    rintro e w1 ⟨rfl, hb1⟩
    have HB1 := hid (bb HB0.out hb1)
    obtain ⟨⟨y0, y1⟩, y2, y3⟩ := u_box2f (u_blk_below HM2.out hb1)
    clear hb1 CO hW0 f0 f1 f2 f3
    go_wp2_with fail
    refine (CT.out _).mono ?_
    rintro e w2 ⟨rfl, rfl⟩
    go_wp2_with fail
    refine bodyPost_ret (v := .agg #[.int .i64 0, .slice none 0 0]) (by simp [results, Tryz.results17, go_sem, y0, y1]) rfl ⟨none, 0, by rw [HE.out]; rfl, by rw [HE.out]; exact RoRow.nil _ _, ?_⟩
    iterate 2 refine Below.setCell ?_ (show w.heap.size ≤ B + 1 by omega) _
    exact HB1.out
  | true =>
    have CC2 := hid (CC.out hT)
    have CE2 := hid (CE.out hT)
    have HE := hid (HET.out (by rw [hT, hU]; rfl))
    rw [hT] at CO
    rw [hU] at CT
    clear CC CE hT hU HEF HET
    go_enter Tryz.func17, Tryz.ntmps17
    go_wp2_with fail
    refine (CO.out _ HB0.out).mono ?_
    rintro e w1 ⟨rfl, hb1⟩
    have HB2 := hid (bb HB0.out hb1)
    have HM12 := hid (u_blk_below HM1.out hb1)
    have HM22 := hid (u_blk_below HM2.out hb1)
    clear hb1 CO hW0 f0 f1 f2 f3
    obtain ⟨⟨f0, f1⟩, f2, f3⟩ := u_box2f HM12.out
    go_wp2_with fail
    refine (CT.out _).mono ?_
    rintro e w2 ⟨rfl, rfl⟩
    go_wp2_with fail
    refine (CC2.out _ HB2.out).mono ?_
    rintro e w4 ⟨g, c, rfl, ho4, hb4⟩
    have HX := hid ((Below.refl w4.heap.size w4).alloc (Nat.le_refl _) (.cells #[.int .i64 m, .slice (some ⟨g, 0, none⟩) n c] 27))
    have HN5 := hid (heap_alloc_new w4 (.cells #[.int .i64 m, .slice (some ⟨g, 0, none⟩) n c] 27))
    obtain ⟨w5, hw5⟩ : ∃ w5, w4.alloc (.cells #[.int .i64 m, .slice (some ⟨g, 0, none⟩) n c] 27) = w5 := ⟨_, rfl⟩
    rw [hw5] at HX HN5
    have HO5 := hid (ho4.below HX.out)
    have HM25 := hid (u_blk_below (u_blk_below HM22.out hb4) HX.out)
    have HB5 := hid (bb (bb HB2.out hb4) HX.out)
    have HBs := hid (show _ ≤ w5.heap.size from Nat.le_trans hb4.size HX.out.size)
    obtain ⟨P, hPP⟩ : ∃ P, w4.heap.size = P := ⟨_, rfl⟩
    have HPge := hid (show B + 1 < P by rw [← hPP]; exact lt_of_heap (u_blk_below HM22.out hb4))
    rw [hPP] at HN5
    clear hb4 ho4 HM12 f0 f1 f2 f3 HX
    go_wp2_with fail
    refine (CE2.out P _ g c w5 HN5.out HO5.out HBs.out (lt_of_heap HN5.out)).mono ?_
    rintro e w6 ⟨v6, rfl, hP6, ho6, hk6⟩
    obtain ⟨a6, c6, rfl⟩ := u_own_len ho6
    have HM26 := hid ((hk6.block (B + 1) (lt_of_heap HM25.out) (fun e => by have := HPge.out; omega)).trans HM25.out)
    have HB6 := hid (hk6.below (B := B) (by rw [← hB]; exact HB5.out.size) (fun k e => by have := HPge.out; omega))
    have HB7 := hid (show Below w.heap.size w w6 from HB5.out.trans (hB ▸ HB6.out))
    have HP6 := hid hP6
    have HX6 := hid (show ∀ u v, RoRow ((w6.setCell ⟨B + 1, 0, none⟩ u).setCell ⟨B + 1, 1, none⟩ v) a6 sr from fun u v => by
      have hne := own_neP ho6 (lt_of_heap HM22.out)
      exact own_row2 (u_own_set (u_own_set ho6 hne _ _) hne _ _))
    clear hk6 ho6 hP6 hw5 hPP HB6
    obtain ⟨⟨y0, y1⟩, y2, y3⟩ := u_box2f HM26.out
    obtain ⟨⟨z0, z1⟩, z2, z3⟩ := u_box2f HP6.out
    generalize hn6 : sr.length = n6 at *
    have HN6 := hid hn6
    clear hn6
    go_wp2_with fail
    refine bodyPost_ret (v := .agg #[.int .i64 m, .slice a6 n6 c6]) (by simp [results, Tryz.results17, go_sem, y0, y1]) rfl ⟨a6, c6, ?_, ?_, ?_⟩
    · rw [HE.out, ← HN6.out]
    · rw [HE.out]
      exact HX6.out _ _
    · iterate 2 refine Below.setCell ?_ (show w.heap.size ≤ B + 1 by omega) _
      exact HB7.out

end Go.Proofs.YtgdfeicojgnoaaaGreatDoor

namespace Go.Proofs.YtgdfeicojgnoaaaGreatDoor
open Go.RowKit
set_option linter.unusedVariables false
set_option linter.unusedSimpArgs false

/-- The rows of a gate, in memory of their own from B on, with their room. -/
structure GtO (w : World) (B : Nat) (g : Gt) (ah : Option Addr) (ch : Nat) (aa : Option Addr) (ca : Nat) (ar : Option Addr) (cr : Nat) : Prop where
  h : w.ownsRow B 72 4 (.slice ah g.hands.length ch) g.hands.length (hdC g.hands)
  a : w.ownsRow B 83 2 (.slice aa g.ask.rows.length ca) g.ask.rows.length (roC g.ask.rows)
  r : w.ownsRow B 83 2 (.slice ar g.hrd.rows.length cr) g.hrd.rows.length (roC g.hrd.rows)

theorem GtO.below {w w' : World} {B : Nat} {g : Gt} {ah : Option Addr} {ch : Nat} {aa : Option Addr} {ca : Nat} {ar : Option Addr} {cr : Nat} (h : GtO w B g ah ch aa ca ar cr) (hb : Below w.heap.size w w') : GtO w' B g ah ch aa ca ar cr := ⟨ownsRow_below h.h hb, ownsRow_below h.a hb, ownsRow_below h.r hb⟩

theorem GtO.base {w : World} {B B' : Nat} {g : Gt} {ah : Option Addr} {ch : Nat} {aa : Option Addr} {ca : Nat} {ar : Option Addr} {cr : Nat} (h : GtO w B g ah ch aa ca ar cr) (hB : B' ≤ B) : GtO w B' g ah ch aa ca ar cr := ⟨u_own_base h.h hB, u_own_base h.a hB, u_own_base h.r hB⟩

theorem GtO.setR {w : World} {B R : Nat} {g : Gt} {ah : Option Addr} {ch : Nat} {aa : Option Addr} {ca : Nat} {ar : Option Addr} {cr : Nat} (h : GtO w B g ah ch aa ca ar cr) (hR : R < B) (o : Nat) (v : Value) : GtO (w.setCell ⟨R, o, none⟩ v) B g ah ch aa ca ar cr := ⟨u_own_set h.h (own_neP h.h hR) o v, u_own_set h.a (own_neP h.a hR) o v, u_own_set h.r (own_neP h.r hR) o v⟩

theorem oset8 {w : World} {B R : Nat} {g : Gt} {ah : Option Addr} {ch : Nat} {aa : Option Addr} {ca : Nat} {ar : Option Addr} {cr : Nat} (h : GtO w B g ah ch aa ca ar cr) (hR : R < B) (v0 v1 v2 v3 v4 v5 v6 v7 : Value) : GtO ((((((((w.setCell ⟨R, 0, none⟩ v0).setCell ⟨R, 1, none⟩ v1).setCell ⟨R, 2, none⟩ v2).setCell ⟨R, 3, none⟩ v3).setCell ⟨R, 4, none⟩ v4).setCell ⟨R, 5, none⟩ v5).setCell ⟨R, 6, none⟩ v6).setCell ⟨R, 7, none⟩ v7) B g ah ch aa ca ar cr :=
  (((((((h.setR hR 0 v0).setR hR 1 v1).setR hR 2 v2).setR hR 3 v3).setR hR 4 v4).setR hR 5 v5).setR hR 6 v6).setR hR 7 v7

theorem own_movedE {w wz : World} {B Bx a c n : Nat} {E : TypeId} {s : Nat} {xs : List Value} (h : w.ownsRow B E s (.slice (some ⟨a, 0, none⟩) n c) n xs) (k : ∀ b, B ≤ b → b < w.heap.size → wz.heap[b]? = w.heap[b]?) (q : Bx ≤ B) : wz.ownsRow Bx E s (.slice (some ⟨a, 0, none⟩) n c) n xs := by
  refine ⟨h.1, ?_⟩
  rcases h.2 with ⟨e, _⟩ | ⟨g, cp, cur, e, hg, hh, r⟩
  · cases e
  · exact .inr ⟨g, cp, cur, e, Nat.le_trans q hg, (k g hg (lt_of_heap hh)).trans hh, r⟩

set_option maxRecDepth 8000 in
set_option maxHeartbeats 8000000 in
theorem cGateCopyO (g : Gt) (ah : Option Addr) (ch : Nat) (aa : Option Addr) (ca : Nat) (ar : Option Addr) (cr : Nat) (w : World) (hR : GtRow w g ah aa ar) (hn1 : g.hands.length ≤ 100000) (hn2 : g.ask.rows.length ≤ 100000) (hn3 : g.hrd.rows.length ≤ 100000) :
    Calls Tryz.prog 32 #[gtV g ah ch aa ca ar cr] w fun e w' => ∃ ah' ch' aa' ca' ar' cr', e = .returned (gtV g ah' ch' aa' ca' ar' cr') ∧ GtO w' w.heap.size g ah' ch' aa' ca' ar' cr' ∧ Below w.heap.size w w' := by
  have CA := hid (fun wx (h : Below w.heap.size w wx) => cCopyS g.ask aa ca wx (hR.2.1.below h) hn2)
  have CR := hid (fun wx (h : Below w.heap.size w wx) => cCopyS g.hrd ar cr wx (hR.2.2.below h) hn3)
  have CC := hid (fun wx (h : Below w.heap.size w wx) => hd_cat ((hR.1.below h).sr (n := g.hands.length) (c := ch) rfl) (Nat.le_trans hn1 (by decide)))
  have HFIN := hid (fun (w1 w2 w3 wz : World) (B1 B2 B3 : Nat) (a1 a2 a3 : Nat) (c1 c2 c3 : Nat) (h1 : w1.ownsRow B1 72 4 (.slice (some ⟨a1, 0, none⟩) g.hands.length c1) g.hands.length (hdC g.hands)) (k1 : ∀ b, B1 ≤ b → b < w1.heap.size → wz.heap[b]? = w1.heap[b]?) (h2 : w2.ownsRow B2 83 2 (.slice (some ⟨a2, 0, none⟩) g.ask.rows.length c2) g.ask.rows.length (roC g.ask.rows)) (k2 : ∀ b, B2 ≤ b → b < w2.heap.size → wz.heap[b]? = w2.heap[b]?) (hB : w2.heap.size ≤ B3) (h3 : w3.ownsRow B3 83 2 (.slice (some ⟨a3, 0, none⟩) g.hrd.rows.length c3) g.hrd.rows.length (roC g.hrd.rows)) (k3 : ∀ b, B3 ≤ b → b < w3.heap.size → wz.heap[b]? = w3.heap[b]?) (Bx : Nat) (q1 : Bx ≤ B1) (q2 : Bx ≤ B2) (q3 : Bx ≤ B3) => (show GtO wz Bx g (some ⟨a1, 0, none⟩) c1 (some ⟨a2, 0, none⟩) c2 (some ⟨a3, 0, none⟩) c3 from ⟨own_movedE h1 k1 q1, own_movedE h2 k2 q2, own_movedE h3 k3 q3⟩))
  unfold RoOwn at CA CR
  unfold gtV
  unfold tbV at CA CR
  clear hR hn1 hn2 hn3
  generalize g.name = x at *
  generalize g.skew = sk at *
  generalize g.now = nw at *
  generalize g.ask.most = am at *
  generalize g.hrd.most = rm at *
  generalize g.hands.length = nh at *
  generalize g.ask.rows.length = na at *
  generalize g.hrd.rows.length = nr at *
  obtain ⟨b1, b2, b3⟩ := u_heap3 w (.cells #[.string x, .slice ah nh ch, .int .i64 sk, .int .i64 nw, .int .i64 am, .slice aa na ca, .int .i64 rm, .slice ar nr cr] 29) (.cells #[.string ⟨#[]⟩, .slice none 0 0, .int .i64 0, .int .i64 0, .int .i64 0, .slice none 0 0, .int .i64 0, .slice none 0 0] 29) (.cells #[.string x, .slice ah nh ch, .int .i64 sk, .int .i64 nw, .int .i64 am, .slice aa na ca, .int .i64 rm, .slice ar nr cr] 29)
  have HB0 := hid ((((Below.refl w.heap.size w).alloc (Nat.le_refl _) (.cells #[.string x, .slice ah nh ch, .int .i64 sk, .int .i64 nw, .int .i64 am, .slice aa na ca, .int .i64 rm, .slice ar nr cr] 29)).alloc (by simp) (.cells #[.string ⟨#[]⟩, .slice none 0 0, .int .i64 0, .int .i64 0, .int .i64 0, .slice none 0 0, .int .i64 0, .slice none 0 0] 29)).alloc (by simp; omega) (.cells #[.string x, .slice ah nh ch, .int .i64 sk, .int .i64 nw, .int .i64 am, .slice aa na ca, .int .i64 rm, .slice ar nr cr] 29))
  have HSZ := hid (show (((w.alloc (.cells #[.string x, .slice ah nh ch, .int .i64 sk, .int .i64 nw, .int .i64 am, .slice aa na ca, .int .i64 rm, .slice ar nr cr] 29)).alloc (.cells #[.string ⟨#[]⟩, .slice none 0 0, .int .i64 0, .int .i64 0, .int .i64 0, .slice none 0 0, .int .i64 0, .slice none 0 0] 29)).alloc (.cells #[.string x, .slice ah nh ch, .int .i64 sk, .int .i64 nw, .int .i64 am, .slice aa na ca, .int .i64 rm, .slice ar nr cr] 29)).heap.size = w.heap.size + 3 by simp)
  obtain ⟨W0, hW0⟩ : ∃ W0, ((w.alloc (.cells #[.string x, .slice ah nh ch, .int .i64 sk, .int .i64 nw, .int .i64 am, .slice aa na ca, .int .i64 rm, .slice ar nr cr] 29)).alloc (.cells #[.string ⟨#[]⟩, .slice none 0 0, .int .i64 0, .int .i64 0, .int .i64 0, .slice none 0 0, .int .i64 0, .slice none 0 0] 29)).alloc (.cells #[.string x, .slice ah nh ch, .int .i64 sk, .int .i64 nw, .int .i64 am, .slice aa na ca, .int .i64 rm, .slice ar nr cr] 29) = W0 := ⟨_, rfl⟩
  rw [hW0] at b1 b2 b3 HB0 HSZ
  obtain ⟨B, hB⟩ : ∃ B, w.heap.size = B := ⟨_, rfl⟩
  have HBB := hid hB
  rw [hB] at b1 b2 b3 HSZ
  have H1 := hid b1
  have H2 := hid b2
  have H3 := hid b3
  have HW0 := hid hW0
  clear b1 b2 b3 hW0
  obtain ⟨g1, c1, w1, hrun, ho1, hb1⟩ := CC.out W0 HB0.out
  have HRUN := hid hrun
  have HO1 := hid ho1
  have HA1 := hid (bb HB0.out hb1)
  have K1 := hid (u_blk_below H1.out hb1)
  have K2 := hid (u_blk_below H2.out hb1)
  have K3 := hid (u_blk_below H3.out hb1)
  have HS1 := hid hb1.size
  clear hrun ho1 hb1 CC
  go_enter Tryz.func32, Tryz.ntmps32
  go_upto_region 2 with fail
  rw [HW0.out]
  clear HW0
  obtain ⟨⟨x0, x1, x2, x3, x4, x5, x6, x7⟩, _⟩ := g_box8f (u_blk_below H1.out ((Below.refl W0.heap.size W0).alloc (Nat.le_refl _) (.cells #[] 72)))
  obtain ⟨⟨z0, z1, z2, z3, z4, z5, z6, z7⟩, zf⟩ := g_box8f K3.out
  have zf1 := zf 1
  clear zf
  have HLB := hid (show B + 2 < W0.heap.size from lt_of_heap H3.out)
  have HC1 := hid (HA1.out.setCell (p := ⟨B + 2, 1, none⟩) (by rw [hB]; (try dsimp only); omega) (.slice (some ⟨g1, 0, none⟩) nh c1))
  have D1 := hid ((Below.heap_setCell w1 ⟨B + 2, 1, none⟩ (.slice (some ⟨g1, 0, none⟩) nh c1) B (by (try dsimp only); omega)).trans K1.out)
  have D2 := hid ((Below.heap_setCell w1 ⟨B + 2, 1, none⟩ (.slice (some ⟨g1, 0, none⟩) nh c1) (B + 1) (by (try dsimp only); omega)).trans K2.out)
  have D3 := hid (show (w1.setCell ⟨B + 2, 1, none⟩ (.slice (some ⟨g1, 0, none⟩) nh c1)).heap[B + 2]? = some (.cells #[.string x, .slice (some ⟨g1, 0, none⟩) nh c1, .int .i64 sk, .int .i64 nw, .int .i64 am, .slice aa na ca, .int .i64 rm, .slice ar nr cr] 29 (0, 0)) from (u_heap_set K3.out _).trans rfl)
  have DO1 := hid (fun b (h : W0.heap.size ≤ b) => Below.heap_setCell w1 ⟨B + 2, 1, none⟩ (.slice (some ⟨g1, 0, none⟩) nh c1) b (by (try dsimp only); have := HLB.out; omega))
  have DS1 := hid (show (w1.setCell ⟨B + 2, 1, none⟩ (.slice (some ⟨g1, 0, none⟩) nh c1)).heap.size = w1.heap.size by simp)
  obtain ⟨⟨p0, p1, p2, p3, p4, p5, p6, p7⟩, _⟩ := g_box8f D1.out
  obtain ⟨W1, hW1⟩ : ∃ W, w1.setCell ⟨B + 2, 1, none⟩ (.slice (some ⟨g1, 0, none⟩) nh c1) = W := ⟨_, rfl⟩
  rw [hW1] at HC1 D1 D2 D3 DO1 DS1 p0 p1 p2 p3 p4 p5 p6 p7
  go_wp2_with (at_builtin; refine g_wpL_app _ rfl (.tmp 5) (.tmp 7) 24 24 rfl (.slice (some ⟨W0.heap.size, 0, none⟩) 0 0) (.slice ah nh ch) rfl rfl HRUN.out ?_)
  clear x0 x1 x2 x3 x4 x5 x6 x7 z0 z1 z2 z3 z4 z5 z6 z7 zf1 p0 p1 p2 p3 p4 p5 p6 p7 hW1 HRUN
  refine (CA.out _ HC1.out).mono ?_
  rintro e w2 ⟨g2, c2, rfl, ho2, hb2⟩
  have HO2 := hid ho2
  have HA2 := hid (bb HC1.out hb2)
  have E1 := hid (u_blk_below D1.out hb2)
  have E2 := hid (u_blk_below D2.out hb2)
  have E3 := hid (u_blk_below D3.out hb2)
  have HS2 := hid hb2.size
  have KO1 := hid (fun b (h : W0.heap.size ≤ b) (h2 : b < w1.heap.size) => (hb2.block b (by rw [DS1.out]; exact h2)).trans (DO1.out b h))
  have HLW1 := hid (show W0.heap.size ≤ W1.heap.size by rw [DS1.out]; exact HS1.out)
  clear ho2 hb2 HC1 D1 D2 D3 DO1 K1 K2 K3 HA1 CA
  obtain ⟨⟨x0, x1, x2, x3, x4, x5, x6, x7⟩, _⟩ := g_box8f E1.out
  obtain ⟨⟨z0, z1, z2, z3, z4, z5, z6, z7⟩, zf⟩ := g_box8f E3.out
  have zf4 := zf 4
  have zf5 := zf 5
  clear zf
  have HC2 := hid (show Below w.heap.size w ((w2.setCell ⟨B + 2, 4, none⟩ (.int .i64 am)).setCell ⟨B + 2, 5, none⟩ (.slice (some ⟨g2, 0, none⟩) na c2)) from by
    iterate 2 refine Below.setCell ?_ (by rw [hB]; (try dsimp only); omega) _
    exact HA2.out)
  have other2 : ∀ b, ¬ b = B + 2 → ((w2.setCell ⟨B + 2, 4, none⟩ (.int .i64 am)).setCell ⟨B + 2, 5, none⟩ (.slice (some ⟨g2, 0, none⟩) na c2)).heap[b]? = w2.heap[b]? := fun b hne => by
    iterate 2 refine (Below.heap_setCell _ _ _ _ (by (try dsimp only); omega)).trans ?_
    rfl
  have D1 := hid ((other2 B (by omega)).trans E1.out)
  have D2 := hid ((other2 (B + 1) (by omega)).trans E2.out)
  have D3 := hid (show ((w2.setCell ⟨B + 2, 4, none⟩ (.int .i64 am)).setCell ⟨B + 2, 5, none⟩ (.slice (some ⟨g2, 0, none⟩) na c2)).heap[B + 2]? = some (.cells #[.string x, .slice (some ⟨g1, 0, none⟩) nh c1, .int .i64 sk, .int .i64 nw, .int .i64 am, .slice (some ⟨g2, 0, none⟩) na c2, .int .i64 rm, .slice ar nr cr] 29 (0, 0)) from (u_heap_set (u_heap_set E3.out _) _).trans rfl)
  have DO2 := hid (fun b (h : W0.heap.size ≤ b) => other2 b (by have := HLB.out; omega))
  have DS2 := hid (show ((w2.setCell ⟨B + 2, 4, none⟩ (.int .i64 am)).setCell ⟨B + 2, 5, none⟩ (.slice (some ⟨g2, 0, none⟩) na c2)).heap.size = w2.heap.size by simp)
  clear other2
  obtain ⟨⟨p0, p1, p2, p3, p4, p5, p6, p7⟩, _⟩ := g_box8f D1.out
  obtain ⟨W2, hW2⟩ : ∃ W, ((w2.setCell ⟨B + 2, 4, none⟩ (.int .i64 am)).setCell ⟨B + 2, 5, none⟩ (.slice (some ⟨g2, 0, none⟩) na c2)) = W := ⟨_, rfl⟩
  rw [hW2] at HC2 D1 D2 D3 DO2 DS2 p0 p1 p2 p3 p4 p5 p6 p7
  go_wp2_with fail
  clear x0 x1 x2 x3 x4 x5 x6 x7 z0 z1 z2 z3 z4 z5 z6 z7 zf4 zf5 p0 p1 p2 p3 p4 p5 p6 p7 hW2
  refine (CR.out _ HC2.out).mono ?_
  rintro e w3 ⟨g3, c3, rfl, ho3, hb3⟩
  have HO3 := hid ho3
  have HA3 := hid (bb HC2.out hb3)
  have E2 := hid (u_blk_below D2.out hb3)
  have E3 := hid (u_blk_below D3.out hb3)
  have HW23 := hid (show w2.heap.size ≤ W2.heap.size by rw [DS2.out]; exact Nat.le_refl _)
  have HL3 := hid (show W0.heap.size ≤ W2.heap.size by rw [DS2.out]; exact Nat.le_trans HLW1.out HS2.out)
  have KO2 := hid (fun b (h : W0.heap.size ≤ b) (h2 : b < w2.heap.size) => (hb3.block b (by rw [DS2.out]; exact h2)).trans (DO2.out b h))
  have KO12 := hid (fun b (h : W0.heap.size ≤ b) (h2 : b < w1.heap.size) => (KO2.out b h (Nat.lt_of_lt_of_le h2 (by have := HS2.out; rw [DS1.out] at this; exact this))).trans (KO1.out b h h2))
  clear ho3 hb3 HC2 D1 D2 D3 DO2 HA2 CR E1
  obtain ⟨⟨y0, y1, y2, y3, y4, y5, y6, y7⟩, yf⟩ := g_box8f E2.out
  obtain ⟨⟨z0, z1, z2, z3, z4, z5, z6, z7⟩, zf⟩ := g_box8f E3.out
  have zf6 := zf 6
  have zf7 := zf 7
  have yf0 := yf 0
  have yf1 := yf 1
  have yf2 := yf 2
  have yf3 := yf 3
  have yf4 := yf 4
  have yf5 := yf 5
  have yf6 := yf 6
  have yf7 := yf 7
  clear zf yf
  go_wp2_with fail
  refine bodyPost_ret (v := .agg #[.string x, .slice (some ⟨g1, 0, none⟩) nh c1, .int .i64 sk, .int .i64 nw, .int .i64 am, .slice (some ⟨g2, 0, none⟩) na c2, .int .i64 rm, .slice (some ⟨g3, 0, none⟩) nr c3]) (by simp [results, Tryz.results32, go_sem, y0, y1, y2, y3, y4, y5, y6, y7, z0, z1, z2, z3, z4, z5, z6, z7]) rfl ⟨_, _, _, _, _, _, rfl, ?_, ?_⟩
  · refine HFIN.out w1 w2 w3 _ W0.heap.size W1.heap.size W2.heap.size g1 g2 g3 c1 c2 c3 HO1.out (fun b h1 h2 => ?_) HO2.out (fun b h1 h2 => ?_) HW23.out HO3.out (fun b h1 h2 => ?_) w.heap.size (Nat.le_trans (by rw [hB]; have := HLB.out; omega) (Nat.le_refl _)) ?_ ?_
    · iterate 10 refine (Below.heap_setCell _ _ _ _ (by (try dsimp only); have := HLB.out; omega)).trans ?_
      exact KO12.out b h1 h2
    · iterate 10 refine (Below.heap_setCell _ _ _ _ (by (try dsimp only); have := HLB.out; have := HLW1.out; omega)).trans ?_
      exact KO2.out b (Nat.le_trans HLW1.out h1) h2
    · iterate 10 refine (Below.heap_setCell _ _ _ _ (by (try dsimp only); have := HLB.out; have := HL3.out; omega)).trans ?_
      rfl
    · rw [hB]; have := HLB.out; have := HLW1.out; omega
    · rw [hB]; have := HLB.out; have := HL3.out; omega
  · iterate 10 refine Below.setCell ?_ (by rw [hB]; (try dsimp only); omega) _
    exact HA3.out

set_option maxRecDepth 8000 in
set_option maxHeartbeats 8000000 in
theorem cNewGateO (x : ByteArray) (l : List Hd) (ah : Option Addr) (ch : Nat) (sk most : Int) (w : World) (hR : HdRow w ah l) (hz : HdSz 1048576 l) (hn : l.length ≤ 1048576) (hx : x.size ≤ 1048576) :
    Calls Tryz.prog 93 #[.string x, .slice ah l.length ch, .int .i64 sk, .int .i64 most] w fun e w' => ∃ ah' ch' aa' ca' ar' cr', e = .returned (.tuple #[gtV (newG x l sk most).1 ah' ch' aa' ca' ar' cr', .bool (newG x l sk most).2]) ∧ GtO w' w.heap.size (newG x l sk most).1 ah' ch' aa' ca' ar' cr' ∧ Below w.heap.size w w' := by
  have hsz : GtSz 1048576 (askG x l sk most) := ⟨hx, hz, hn, fun y hy => absurd hy (List.not_mem_nil), Nat.zero_le _, fun y hy => absurd hy (List.not_mem_nil), Nat.zero_le _⟩
  have hrow : ∀ wx, Below w.heap.size w wx → GtRow wx (askG x l sk most) ah none none := fun wx h => ⟨hR.below h, RoRow.nil _ _, RoRow.nil _ _⟩
  have CO := hid (fun wx (h : Below w.heap.size w wx) => cGateOkS (askG x l sk most) ah ch none 0 none 0 wx (hrow wx h) hsz)
  have CC := hid (fun (hg : gateB (askG x l sk most) = true) wx (h : Below w.heap.size w wx) => cGateCopyO (askG x l sk most) ah ch none 0 none 0 wx (hrow wx h) (show l.length ≤ 100000 from Nat.le_trans (show l.length ≤ 4 from gateB_hands hg) (by decide)) (Nat.zero_le _) (Nat.zero_le _))
  have HNF := hid (fun (h : gateB (askG x l sk most) = false) => (show newG x l sk most = (zeroG, false) from if_neg (by rw [h]; exact Bool.false_ne_true)))
  have HNT := hid (fun (h : gateB (askG x l sk most) = true) => (show newG x l sk most = (askG x l sk most, true) from if_pos h))
  obtain ⟨N0, hN0⟩ : ∃ N, newG x l sk most = N := ⟨_, rfl⟩
  rw [hN0]
  simp only [hN0] at HNF HNT
  clear hN0 hsz hrow hR hz hn hx
  obtain ⟨G, hG⟩ : ∃ G, askG x l sk most = G := ⟨_, rfl⟩
  have HGV := hid (show ∀ a1 c1 a2 c2 a3 c3, gtV G a1 c1 a2 c2 a3 c3 = .agg #[.string x, .slice a1 l.length c1, .int .i64 sk, .int .i64 0, .int .i64 most, .slice a2 0 c2, .int .i64 most, .slice a3 0 c3] from fun a1 c1 a2 c2 a3 c3 => by rw [← hG]; rfl)
  rw [hG] at CO CC HNF HNT
  rw [HGV.out] at CO
  simp only [HGV.out] at CC
  clear hG
  obtain ⟨V, hV⟩ : ∃ V, gateB G = V := ⟨_, rfl⟩
  rw [hV] at CO CC HNF HNT
  clear hV
  have HL0 := hid (show ∀ wx, GtO wx w.heap.size zeroG none 0 none 0 none 0 from fun wx => ⟨World.ownsRow_nil _ _ _ _, World.ownsRow_nil _ _ _ _, World.ownsRow_nil _ _ _ _⟩)
  generalize l.length = n at *
  have HZ := hid (heap_alloc_new w (.cells #[.string ⟨#[]⟩, .slice none 0 0, .int .i64 0, .int .i64 0, .int .i64 0, .slice none 0 0, .int .i64 0, .slice none 0 0] 29))
  have HB0 := hid ((Below.refl w.heap.size w).alloc (Nat.le_refl _) (.cells #[.string ⟨#[]⟩, .slice none 0 0, .int .i64 0, .int .i64 0, .int .i64 0, .slice none 0 0, .int .i64 0, .slice none 0 0] 29))
  obtain ⟨W0, hW0⟩ : ∃ W0, w.alloc (.cells #[.string ⟨#[]⟩, .slice none 0 0, .int .i64 0, .int .i64 0, .int .i64 0, .slice none 0 0, .int .i64 0, .slice none 0 0] 29) = W0 := ⟨_, rfl⟩
  rw [hW0] at HZ HB0
  obtain ⟨R, hRR⟩ : ∃ R, w.heap.size = R := ⟨_, rfl⟩
  rw [hRR] at HZ
  have HRL := hid (lt_of_heap HZ.out)
  have HTg := hid (heap_alloc_new W0 (.cells #[.string x, .slice ah n ch, .int .i64 sk, .int .i64 0, .int .i64 most, .slice none 0 0, .int .i64 most, .slice none 0 0] 29))
  have HA := hid ((Below.refl W0.heap.size W0).alloc (Nat.le_refl _) (.cells #[.string x, .slice ah n ch, .int .i64 sk, .int .i64 0, .int .i64 most, .slice none 0 0, .int .i64 most, .slice none 0 0] 29))
  obtain ⟨W1, hW1⟩ : ∃ W, W0.alloc (.cells #[.string x, .slice ah n ch, .int .i64 sk, .int .i64 0, .int .i64 most, .slice none 0 0, .int .i64 most, .slice none 0 0] 29) = W := ⟨_, rfl⟩
  obtain ⟨P, hP⟩ : ∃ P, W0.heap.size = P := ⟨_, rfl⟩
  rw [hW1] at HTg HA
  rw [hP] at HTg
  have HBe := hid (bb HB0.out HA.out)
  have HZe := hid (u_blk_below HZ.out HA.out)
  have HW0 := hid hW0
  have HW1 := hid hW1
  clear hW0 hW1 HB0 HZ HA
  obtain ⟨⟨f0, f1, f2, f3, f4, f5, f6, f7⟩, _⟩ := g_box8f (show (W0.alloc (.cells #[.string x, .slice ah n ch, .int .i64 sk, .int .i64 0, .int .i64 most, .slice none 0 0, .int .i64 most, .slice none 0 0] 29)).heap[P]? = _ from by rw [HW1.out]; exact HTg.out)
  go_enter Tryz.func93, Tryz.ntmps93
  go_upto_region 1 with fail
  rw [HW0.out]
  clear HW0
  go_wp2_with fail
  rw [HW1.out]
  clear HW1 hP f0 f1 f2 f3 f4 f5 f6 f7
  refine (CO.out _ HBe.out).mono ?_
  rintro e w3 ⟨rfl, hb3⟩
  have HBf := hid (bb HBe.out hb3)
  have HZf := hid (u_blk_below HZe.out hb3)
  have HTh := hid (u_blk_below HTg.out hb3)
  clear hb3 HBe HZe HTg CO
  cases V with
  | false =>
    have HE := hid (HNF.out rfl)
    clear CC HNF HNT
    obtain ⟨⟨k0, k1, k2, k3, k4, k5, k6, k7⟩, kf⟩ := g_box8f HZf.out
    have kf0 := kf 0
    have kf1 := kf 1
    have kf2 := kf 2
    have kf3 := kf 3
    have kf4 := kf 4
    have kf5 := kf 5
    have kf6 := kf 6
    have kf7 := kf 7
    clear kf
    go_wp2_with fail
    refine bodyPost_ret (v := .tuple #[.agg #[.string ⟨#[]⟩, .slice none 0 0, .int .i64 0, .int .i64 0, .int .i64 0, .slice none 0 0, .int .i64 0, .slice none 0 0], .bool false]) (by simp [results, Tryz.results93, go_sem, k0, k1, k2, k3, k4, k5, k6, k7]) rfl ⟨none, 0, none, 0, none, 0, by rw [HE.out]; rfl, by rw [HE.out]; exact HL0.out _, ?_⟩
    iterate 8 refine Below.setCell ?_ (show w.heap.size ≤ R by omega) _
    exact HBf.out
  | true =>
    have HE := hid (HNT.out rfl)
    have C2 := hid (CC.out rfl)
    clear CC HNF HNT
    obtain ⟨⟨f0, f1, f2, f3, f4, f5, f6, f7⟩, _⟩ := g_box8f HTh.out
    go_wp2_with fail
    clear f0 f1 f2 f3 f4 f5 f6 f7
    refine (C2.out _ HBf.out).mono ?_
    rintro e w4 ⟨a1, c1, a2, c2, a3, c3, rfl, ho, hb4⟩
    have HBg := hid (bb HBf.out hb4)
    have HZg := hid (u_blk_below HZf.out hb4)
    have HO := hid ho
    have HRg := hid (show R < w3.heap.size from lt_of_heap HZf.out)
    clear ho hb4 C2 HBf HZf
    obtain ⟨⟨k0, k1, k2, k3, k4, k5, k6, k7⟩, kf⟩ := g_box8f HZg.out
    have kf0 := kf 0
    have kf1 := kf 1
    have kf2 := kf 2
    have kf3 := kf 3
    have kf4 := kf 4
    have kf5 := kf 5
    have kf6 := kf 6
    have kf7 := kf 7
    clear kf
    go_wp2_with fail
    refine bodyPost_ret (v := .tuple #[.agg #[.string x, .slice a1 n c1, .int .i64 sk, .int .i64 0, .int .i64 most, .slice a2 0 c2, .int .i64 most, .slice a3 0 c3], .bool true]) (by simp [results, Tryz.results93, go_sem, k0, k1, k2, k3, k4, k5, k6, k7]) rfl ⟨a1, c1, a2, c2, a3, c3, ?_, ?_, ?_⟩
    · rw [HE.out]
      simp only [HGV.out]
    · have h1 := oset8 HO.out HRg.out (.string x) (.slice a1 n c1) (.int .i64 sk) (.int .i64 0) (.int .i64 most) (.slice a2 0 c2) (.int .i64 most) (.slice a3 0 c3)
      rw [HE.out]
      exact h1.base (by have := HRg.out; omega)
    · iterate 8 refine Below.setCell ?_ (show w.heap.size ≤ R by omega) _
      exact HBg.out

end Go.Proofs.YtgdfeicojgnoaaaGreatDoor

namespace Go.Proofs.YtgdfeicojgnoaaaGreatDoor
open Go.RowKit
set_option linter.unusedVariables false
set_option linter.unusedSimpArgs false

theorem and255 (x : Int) : 0 ≤ bits BinOp.and IntKind.i64 x 255 ∧ bits BinOp.and IntKind.i64 x 255 ≤ 255 := by
  have h : (BitVec.ofInt 64 x &&& BitVec.ofInt 64 255).toNat ≤ 255 := by
    rw [BitVec.toNat_and]
    exact Nat.le_trans Nat.and_le_right (by decide)
  have e : bits BinOp.and IntKind.i64 x 255 = IntKind.i64.wrap ((BitVec.ofInt 64 x &&& BitVec.ofInt 64 255).toNat : Int) := rfl
  rw [e, IntWalk.i64_in _ (by omega)]
  omega

/-- The bytes that a draw is made of can be read in w0. -/
def CodeRow (w0 : World) (a : Option Addr) (len : Nat) : Prop :=
  len = 0 ∨ ∃ cb co, ∃ z : Nat → Int, a = some ⟨cb, co, none⟩ ∧ cb < w0.heap.size ∧ ∀ j, j < len → w0.cell? ⟨cb, co + j, none⟩ = some (.int .u8 (z j))

/-- A cursor in block b, one of the call's own. -/
def Cur (w0 : World) (a : Option Addr) (len cap b : Nat) (w : World) : Prop :=
  w0.heap.size ≤ b ∧ Below w0.heap.size w0 w ∧ ∃ i h : Int, 0 ≤ i ∧ i ≤ len ∧ w.heap[b]? = some (.cells #[.slice a len cap, .int .i64 i, .int .i64 h] 94 (0, 0))

theorem gtrans {w w1 w2 : World} {row : Option Nat} (h : w.grownBy w1 row) (k : w1.grownBy w2 row) : w.grownBy w2 row :=
  ⟨k.os.trans h.os, k.tape.trans h.tape, k.output.trans h.output, Nat.le_trans h.size k.size, fun i hi hr => (k.block i (Nat.lt_of_lt_of_le hi h.size) hr).trans (h.block i hi hr)⟩

theorem g_drewN {w w1 : World} {row : Option Nat} (h : w.grownBy w1 row) (n : Nat) : w.grownBy (w1.drewN n) row := ⟨h.os, h.tape, h.output, h.size, h.block⟩

theorem g_set {w w1 : World} {b : Nat} (h : w.grownBy w1 (some b)) (j : Nat) (v : Value) : w.grownBy (w1.setCell ⟨b, j, none⟩ v) (some b) := gtrans h (Lib.grownBy_setCell w1 b j v)

theorem below_grown {w0 w w1 : World} {B : Nat} {row : Option Nat} (h : Below B w0 w) (hB : B ≤ w.heap.size) (g : w.grownBy w1 row) (hr : ∀ k, row = some k → B ≤ k) : Below B w0 w1 := h.grown g hB hr

theorem Cur.size {w0 : World} {a : Option Addr} {len cap b : Nat} {w : World} (h : Cur w0 a len cap b w) : w0.heap.size ≤ w.heap.size := h.2.1.size

theorem Cur.lt {w0 : World} {a : Option Addr} {len cap b : Nat} {w : World} (h : Cur w0 a len cap b w) : b < w.heap.size := by
  obtain ⟨_, _, i, x, _, _, hh⟩ := h
  exact lt_of_heap hh

theorem Cur.drewN {w0 : World} {a : Option Addr} {len cap b : Nat} {w : World} (h : Cur w0 a len cap b w) (n : Nat) : Cur w0 a len cap b (w.drewN n) := by
  obtain ⟨h1, h2, r⟩ := h
  exact ⟨h1, ⟨h2.os, h2.tape, h2.output, h2.size, h2.block⟩, r⟩

theorem Cur.set1 {w0 : World} {a : Option Addr} {len cap b : Nat} {w : World} (h : Cur w0 a len cap b w) (v : Int) (h0 : 0 ≤ v) (h1 : v ≤ len) : Cur w0 a len cap b (w.setCell ⟨b, 1, none⟩ (.int .i64 v)) := by
  obtain ⟨hb, h2, i, x, _, _, hh⟩ := h
  refine ⟨hb, h2.setCell (p := ⟨b, 1, none⟩) hb _, v, x, h0, h1, ?_⟩
  simp [World.setCell, Array.getElem?_modify, hh]

theorem Cur.set2 {w0 : World} {a : Option Addr} {len cap b : Nat} {w : World} (h : Cur w0 a len cap b w) (v : Int) : Cur w0 a len cap b (w.setCell ⟨b, 2, none⟩ (.int .i64 v)) := by
  obtain ⟨hb, h2, i, x, h0, h1, hh⟩ := h
  refine ⟨hb, h2.setCell (p := ⟨b, 2, none⟩) hb _, i, v, h0, h1, ?_⟩
  simp [World.setCell, Array.getElem?_modify, hh]

/-- What else is written leaves the cursor. -/
theorem Cur.grown {w0 : World} {a : Option Addr} {len cap b : Nat} {w w1 : World} {row : Option Nat} (h : Cur w0 a len cap b w) (g : w.grownBy w1 row) (hne : some b ≠ row) (hr : ∀ k, row = some k → w0.heap.size ≤ k) : Cur w0 a len cap b w1 := by
  have hlt := h.lt
  obtain ⟨hb, h2, i, x, h0, h1, hh⟩ := h
  exact ⟨hb, h2.grown g h2.size hr, i, x, h0, h1, (g.block b hlt hne).trans hh⟩

theorem Cur.alloc {w0 : World} {a : Option Addr} {len cap b : Nat} {w : World} (h : Cur w0 a len cap b w) (o : Obj) : Cur w0 a len cap b (w.alloc o) :=
  h.grown (World.grownBy_alloc w o none) (by simp) (by simp)

/-- A row of bytes of the call's own is no cursor's block. -/
theorem Cur.ne {w0 : World} {a : Option Addr} {len cap b : Nat} {w : World} (h : Cur w0 a len cap b w) {B : Nat} {v : Value} {n : Nat} {xs : List Value} (ho : w.ownsRow B 5 1 v n xs) : v.ownBlock ≠ some b := by
  obtain ⟨hb, h2, i, x, h0, h1, hh⟩ := h
  exact Lib.ownBlock_ne (T := 94) ho hh (by decide)

/-- A draw leaves such a row. -/
theorem own_kept {w0 : World} {a : Option Addr} {len cap b : Nat} {w w1 : World} (h : Cur w0 a len cap b w) {B : Nat} {v : Value} {n : Nat} {xs : List Value} (ho : w.ownsRow B 5 1 v n xs) (g : w.grownBy w1 (some b)) : w1.ownsRow B 5 1 v n xs :=
  ho.kept g (Or.inr (h.ne ho))

set_option maxHeartbeats 2000000 in
theorem cByte (w0 : World) (a : Option Addr) (len cap b : Nat) (w : World) (hlen : len ≤ 4096) (hcr : CodeRow w0 a len) (hC : Cur w0 a len cap b w) :
    Calls Tryz.prog 62 #[.pointer (some ⟨b, 0, none⟩)] w fun e w' => ∃ x : Int, e = .returned (.int .i64 x) ∧ 0 ≤ x ∧ x ≤ 255 ∧ Cur w0 a len cap b w' ∧ w.grownBy w' (some b) := by
  have HC : Hid (Cur w0 a len cap b w) := hC
  obtain ⟨hb, hB, i, h, hi0, hi1, hh⟩ := hC
  have k0 : w.cell? ⟨b, 0, none⟩ = some (.slice a len cap) := by rw [Lib.cell_of_heap hh]; rfl
  have k1 : w.cell? ⟨b, 1, none⟩ = some (.int .i64 i) := by rw [Lib.cell_of_heap hh]; rfl
  have k2 : w.cell? ⟨b, 2, none⟩ = some (.int .i64 h) := by rw [Lib.cell_of_heap hh]; rfl
  have f1 : w.frozen? ⟨b, 1, none⟩ = false := Lib.frozen_of_heap hh 1
  have f2 : w.frozen? ⟨b, 2, none⟩ = false := Lib.frozen_of_heap hh 2
  have g0 := World.grownBy.refl w (some b)
  have HG : Hid (w.grownBy w (some b)) := g0
  by_cases hlt : i < len
  · obtain ⟨cb, co, z, rfl, hcb, hz⟩ : ∃ cb co, ∃ z : Nat → Int, a = some ⟨cb, co, none⟩ ∧ cb < w0.heap.size ∧ ∀ j, j < len → w0.cell? ⟨cb, co + j, none⟩ = some (.int .u8 (z j)) := by
      rcases hcr with h | h
      · omega
      · exact h
    have hne : ¬ cb = b := by omega
    have hcell : ∀ v, (w.setCell ⟨b, 2, none⟩ v).cell? ⟨cb, co + i.toNat, none⟩ = some (.int .u8 (z i.toNat)) := fun v => by
      rw [World.cell?_setCell_other _ _ _ _ (by simp [hne]), hB.cell (p := ⟨cb, co + i.toNat, none⟩) hcb]
      exact hz _ (by omega)
    clear hcr hz hB hh g0
    have hdl : decide (i < (len : Int)) = true := by simp; omega
    go_enter Tryz.func62, Tryz.ntmps62
    go_wp2
    go_quiet (fail)
    go_wp2
    go_quiet (fail)
    go_wp2
    go_quiet (fail)
    go_wp2
    go_ret
    refine ⟨_, rfl, (and255 _).1, (and255 _).2, ?_, ?_⟩
    · repeat (first | exact HC.out | apply Cur.drewN | (refine Cur.set1 ?_ _ (by omega) (by omega)) | apply Cur.set2)
    · repeat (first | exact HG.out | apply g_drewN | apply g_set)
  · have hdl : decide (i < (len : Int)) = false := by simp; omega
    clear hcr hB hh g0
    go_enter Tryz.func62, Tryz.ntmps62
    go_wp2
    go_quiet (fail)
    go_wp2
    go_quiet (fail)
    go_wp2
    go_ret
    refine ⟨_, rfl, (and255 _).1, (and255 _).2, ?_, ?_⟩
    · repeat (first | exact HC.out | apply Cur.drewN | apply Cur.set2)
    · repeat (first | exact HG.out | apply g_drewN | apply g_set)

set_option maxHeartbeats 2000000 in
/-- A number below n (n from 1 to 256). -/
theorem cBelow (n : Nat) (w0 : World) (a : Option Addr) (len cap b : Nat) (w : World) (hlen : len ≤ 4096) (hcr : CodeRow w0 a len) (hC : Cur w0 a len cap b w) (hn0 : 1 ≤ n) (hn1 : n ≤ 256) :
    Calls Tryz.prog 25 #[.pointer (some ⟨b, 0, none⟩), .int .i64 n] w fun e w' => ∃ x : Nat, e = .returned (.int .i64 x) ∧ x < n ∧ Cur w0 a len cap b w' ∧ w.grownBy w' (some b) := by
  have HC : Hid (Cur w0 a len cap b w) := hC
  have HR : Hid (CodeRow w0 a len) := hcr
  clear hC hcr
  have hz : ¬ (n : Int) = 0 := by omega
  go_enter Tryz.func25, Tryz.ntmps25
  go_wp2_with (go_at_call 62; refine (cByte w0 a len cap b _ hlen HR.out HC.out).mono ?_; rintro e w1 ⟨x, rfl, h0, h1, hC1, hg1⟩)
  go_ret
  have e : (x % (n : Int)) = ((x.toNat % n : Nat) : Int) := by
    have : x = (x.toNat : Int) := by omega
    rw [this]; simp
  refine ⟨x.toNat % n, ?_, Nat.mod_lt _ (by omega), hC1, hg1⟩
  first | (rw [← e]; rfl) | (rw [← e]; simp)

theorem cOnce (n : Nat) (w0 : World) (a : Option Addr) (len cap b : Nat) (w : World) (hlen : len ≤ 4096) (hcr : CodeRow w0 a len) (hC : Cur w0 a len cap b w) (hn0 : 1 ≤ n) (hn1 : n ≤ 256) :
    Calls Tryz.prog 29 #[.pointer (some ⟨b, 0, none⟩), .int .i64 n] w fun e w' => ∃ x : Bool, e = .returned (.bool x) ∧ Cur w0 a len cap b w' ∧ w.grownBy w' (some b) := by
  have HC : Hid (Cur w0 a len cap b w) := hC
  have HR : Hid (CodeRow w0 a len) := hcr
  clear hC hcr
  go_enter Tryz.func29, Tryz.ntmps29
  go_wp2_with (go_at_call 25; refine (cBelow n w0 a len cap b _ hlen HR.out HC.out hn0 hn1).mono ?_; rintro e w1 ⟨x, rfl, h1, hC1, hg1⟩)
  go_ret
  exact ⟨_, rfl, hC1, hg1⟩

set_option maxHeartbeats 2000000 in
theorem cNew (a : Option Addr) (len cap : Nat) (w : World) (hlen : len ≤ 4096) (hcr : CodeRow w a len) :
    Calls Tryz.prog 23 #[.slice a len cap] w fun e w' => e = .returned (.pointer (some ⟨w.heap.size, 0, none⟩)) ∧ Cur w a len cap w.heap.size w' := by
  go_enter Tryz.func23, Tryz.ntmps23
  go_wp2
  go_loop [3, 4] (fun h i => ∃ (k : Nat) (x : Int), k ≤ len ∧ i = .int .i64 k ∧ h = .int .i64 x) (fun _ i => len - (intOf i).toNat)
  case atStart => exact ⟨0, _, Nat.zero_le _, rfl, rfl⟩
  case round =>
    obtain ⟨k, x, hk, rfl, rfl⟩ := hrel
    by_cases hlt : k < len
    · obtain ⟨cb, co, z, rfl, hcb, hz⟩ : ∃ cb co, ∃ z : Nat → Int, a = some ⟨cb, co, none⟩ ∧ cb < w.heap.size ∧ ∀ j, j < len → w.cell? ⟨cb, co + j, none⟩ = some (.int .u8 (z j)) := by
        rcases hcr with h | h
        · omega
        · exact h
      have hcell := hz k hlt
      clear hz hcr
      go_wp2
      go_round
      case rel => exact ⟨k + 1, _, by omega, by go_num, rfl⟩
      case measure => simp [intOf]; omega
    · go_wp2
      go_ret
      refine ⟨rfl, Nat.le_refl _, (Below.refl _ _).alloc (Nat.le_refl _) _, 0, x, by omega, by omega, ?_⟩
      exact heap_alloc_new _ _

end Go.Proofs.YtgdfeicojgnoaaaGreatDoor
