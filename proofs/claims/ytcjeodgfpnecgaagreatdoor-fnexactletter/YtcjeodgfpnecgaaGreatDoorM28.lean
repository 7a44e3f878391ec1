/- Contract of copiedAttrs of the program. Rows of nodes, as the exact laws size, copy and compare them. A piece of a tree copied, Parents further by so much: contract of moved of the program. -/
import Derived.Test.YtcjeodgfpnecgaaGreatDoorM16
import Derived.Test.YtcjeodgfpnecgaaGreatDoorM24
import Derived.Test.YtcjeodgfpnecgaaGreatDoorM5
import Derived.Test.YtcjeodgfpnecgaaGreatDoorM27
import Derived.Test.YtcjeodgfpnecgaaGreatDoorM3
import Derived.Deep.RegionHeld3
namespace Go.Proofs.YtcjeodgfpnecgaaGreatDoor
open Go.RowKit
set_option linter.unusedVariables false
set_option linter.unusedSimpArgs false

theorem own_ats {w : World} {B : Nat} {v : Value} {n : Nat} {l : List At} (h : w.ownsRow B 58 2 v n (atC l)) (hn : l.length = n) : ∃ a c, v = .slice a n c ∧ OwnAts w B a l := by
  rcases h.2 with ⟨rfl, rfl⟩ | ⟨g, cp, cur, rfl, hg, hh, hn', hc, hs, ht⟩
  · exact ⟨none, 0, rfl, fun hl => by omega⟩
  · refine ⟨_, cp, rfl, fun _ => ⟨g, 0, cur, rfl, hg, hh, fun j hj => ?_⟩⟩
    obtain ⟨g1, g2⟩ := atC_get l j hj
    rw [← ht, List.getElem?_take] at g1 g2
    refine ⟨?_, ?_⟩
    · rw [Nat.zero_add, ← Array.getElem?_toList]
      split at g1
      · exact g1
      · cases g1
    · rw [Nat.zero_add, ← Array.getElem?_toList]
      split at g2
      · exact g2
      · cases g2

set_option maxRecDepth 8000 in
set_option maxHeartbeats 8000000 in
theorem cCopiedAttrs (a : Option Addr) (cap : Nat) (l : List At) (w : World) (hR : AtRow w a l) (hz : AtSz 1048576 l) (hn : l.length ≤ 1048576) :
    Calls Tryz.prog 69 #[.slice a l.length cap] w fun e w' => ∃ a' c', e = .returned (.slice a' l.length c') ∧ OwnAts w' w.heap.size a' l ∧ Below w.heap.size w w' := by
  obtain ⟨i0, hi, hz0, hz1, hz2⟩ := info_parts infoAtW
  have HI := hid (And.intro hi (And.intro hz0 (And.intro hz1 hz2)))
  have HR := hid hR
  have HZ := hid hz
  clear hR hz hi hz0 hz1 hz2
  obtain ⟨n, hnn⟩ : ∃ n, l.length = n := ⟨_, rfl⟩
  have HN := hid hnn
  rw [hnn] at hn ⊢
  clear hnn
  go_enter Tryz.func69, Tryz.ntmps69
  go_wp2_with fail
  go_loopw [3, 8] (fun v k wr => ∃ i : Nat, k = .int .i64 (i : Int) ∧ i ≤ n ∧ Hid (wr.ownsRow w.heap.size 58 2 v i (atC (l.take i))) ∧ Hid (Below w.heap.size w wr)) (fun _ k _ => n - (intOf k).toNat)
  case atStart => exact ⟨0, rfl, Nat.zero_le _, World.ownsRow_nil _ _ _ _, Below.refl _ _⟩
  case round =>
    obtain ⟨i, rfl, hin, HO, HB⟩ := hrel
    by_cases hlt : i < n
    case neg =>
      have hie : i = n := by omega
      subst hie
      have HO2 := HO.out
      rw [List.take_of_length_le (by rw [HN.out]; exact Nat.le_refl _)] at HO2
      obtain ⟨a', c', hv, hoa⟩ := own_ats HO2 HN.out
      have HOA := hid hoa
      subst hv
      clear HO2 hoa
      go_wp2_with fail
      go_ret
      exact ⟨_, _, rfl, HOA.out, HB.out⟩
    have his : i < l.length := by rw [HN.out]; exact hlt
    have hinn : (i : Int) < (n : Int) := by omega
    obtain ⟨b, o, rfl, hb, c1, c2⟩ := (HR.out.below HB.out) i his
    obtain ⟨z1, z2⟩ := HZ.out _ (List.getElem_mem his)
    have HX := hid (show atC (l.take (i + 1)) = atC (l.take i) ++ [.string l[i].name, .string l[i].value] by rw [take_snocN his, atC_app]; rfl)
    have CX := hid (fun w => c_strings_Clone l[i].name w z1)
    have CY := hid (fun w => c_strings_Clone l[i].value w z2)
    generalize l[i].name = x at *
    generalize l[i].value = y at *
    clear z1 z2
    have M := hid (heap_alloc_new wr (.cells #[.string x, .string y] 58))
    have HB0 := hid (HB.out.alloc HB.out.size (.cells #[.string x, .string y] 58))
    have HO0 := hid (HO.out.alloc (.cells #[.string x, .string y] 58))
    have HVL := hid (fun k e => (HO.out.lt k e).2)
    have hws := HB.out.size
    obtain ⟨a5, c5, hv5⟩ := own_len HO.out
    obtain ⟨g, hg⟩ : ∃ g, wr.heap.size = g := ⟨_, rfl⟩
    have Hg := hid hg
    subst hv5
    clear HO
    go_wp2_with fail
    obtain ⟨W0, hW0⟩ : ∃ W0, wr.alloc (.cells #[.string x, .string y] 58) = W0 := ⟨_, rfl⟩
    rw [hW0] at M HB0 HO0
    simp only [hW0, hg] at M ⊢
    have HBc := hid ((Below.refl W0.heap.size W0).drew)
    have hgl := hid (lt_of_heap M.out)
    have hk := hid (box2c M.out)
    have HON := hid (show ∀ u ∈ [Value.string x, Value.string y], u.oneCell' = true by
      intro u hu
      simp at hu
      rcases hu with rfl | rfl <;> rfl)
    clear c1 c2 hW0
    rw [hg] at HVL hws
    obtain ⟨hi, hz0, hz1, hz2⟩ := HI.out
    go_region_held3 (fun w' => w'.cell? ⟨g, 0, none⟩ = some (.string x) ∧ w'.cell? ⟨g, 1, none⟩ = some (.string y)) (first | exact HK.out | exact ⟨(HBc.out.cell (p := ⟨g, 0, none⟩) hgl.out).trans hk.out.1, (HBc.out.cell (p := ⟨g, 1, none⟩) hgl.out).trans hk.out.2⟩ | go_keep)
      (first
        | (go_at_call 68; refine (CX.out _).mono ?_; rintro e w1 ⟨rfl, hb1⟩; replace HBc := hid (bb HBc.out hb1); clear hb1)
        | (go_at_call 68; refine (CY.out _).mono ?_; rintro e w1 ⟨rfl, hb1⟩; replace HBc := hid (bb HBc.out hb1); clear hb1)
        | (refine step_app_at rfl (.tmp 12) (.tmp 20) 29 rfl w.heap.size 58 i0 _ 2 32 Tryz.underlying29 hi hz0 hz1 hz2 rfl (by decide) (.slice a5 i c5) i (atC (l.take i)) (by simp [Act.eval, Act.put]) ((ownsRow_below HO0.out HBc.out).alloc _) ⟨_, 0, none⟩ 1 1 [.string x, .string y] (by simp [Act.eval, Act.put]) rfl (two_cells _ _ _ _) HON.out (by unfold maxLen; omega) (by omega) (by simp; have := HBc.out.size; have := hgl.out; omega) ?_; intro v' w2 hown' hgrow hv'; have HBd := hid (bb HBc.out ((Below.refl _ _).alloc (Nat.le_refl _) (.cells #[.string x, .string y] 58))); have HK := hid (And.intro (cell_grownR hgrow ((HBd.out.cell (p := ⟨g, 0, none⟩) hgl.out).trans hk.out.1) (Nat.lt_of_lt_of_le hgl.out HBd.out.size) (fun e => by (have := HVL.out _ e; omega))) (cell_grownR hgrow ((HBd.out.cell (p := ⟨g, 1, none⟩) hgl.out).trans hk.out.2) (Nat.lt_of_lt_of_le hgl.out HBd.out.size) (fun e => by (have := HVL.out _ e; omega))))))
    have HO2 := hid (show w2.ownsRow w.heap.size 58 2 v' (i + 1) (atC (l.take (i + 1))) by rw [HX.out]; exact hown')
    have HB2 := hid ((bb HB0.out HBd.out).grown hgrow (by have := (bb HB0.out HBd.out).size; exact this) (fun k e => ((ownsRow_below HO0.out HBc.out).lt k e).1))
    obtain ⟨a6, c6, hv6⟩ := own_len hown'
    subst hv6
    clear hown' hgrow hv' HK HBd
    go_wp2_with fail
    go_roundw
    case rel => exact ⟨i + 1, by go_num, by omega, HO2.out, HB2.out⟩
    case measure => simp [intOf]; omega

/-- Four cells, in whatever world behind. -/
theorem box4_later {W0 : World} {g : Nat} {x y z u : Value} {T : TypeId} (h : W0.heap[g]? = some (.cells #[x, y, z, u] T (0, 0))) :
    (∀ W', Below W0.heap.size W0 W' → W'.cell? ⟨g, 0, none⟩ = some x) ∧ (∀ W', Below W0.heap.size W0 W' → W'.cell? ⟨g, 1, none⟩ = some y) ∧ (∀ W', Below W0.heap.size W0 W' → W'.cell? ⟨g, 2, none⟩ = some z) ∧ (∀ W', Below W0.heap.size W0 W' → W'.cell? ⟨g, 3, none⟩ = some u)
      ∧ (∀ W', Below W0.heap.size W0 W' → W'.frozen? ⟨g, 0, none⟩ = false) ∧ (∀ W', Below W0.heap.size W0 W' → W'.frozen? ⟨g, 1, none⟩ = false) ∧ (∀ W', Below W0.heap.size W0 W' → W'.frozen? ⟨g, 2, none⟩ = false) ∧ (∀ W', Below W0.heap.size W0 W' → W'.frozen? ⟨g, 3, none⟩ = false) := by
  have k : ∀ W', Below W0.heap.size W0 W' → W'.heap[g]? = some (.cells #[x, y, z, u] T (0, 0)) := fun W' hb => (hb.block g (lt_of_heap h)).trans h
  exact ⟨fun W' hb => (box4 (k W' hb)).1.1, fun W' hb => (box4 (k W' hb)).1.2.1, fun W' hb => (box4 (k W' hb)).1.2.2.1, fun W' hb => (box4 (k W' hb)).1.2.2.2, fun W' hb => (box4 (k W' hb)).2.1, fun W' hb => (box4 (k W' hb)).2.2.1, fun W' hb => (box4 (k W' hb)).2.2.2.1, fun W' hb => (box4 (k W' hb)).2.2.2.2⟩

theorem OwnAts.mono {w : World} {B B' : Nat} {a : Option Addr} {l : List At} (h : OwnAts w B' a l) (hB : B ≤ B') : OwnAts w B a l := by
  intro hl
  obtain ⟨g, o, cu, e, h1, h2, h3⟩ := h hl
  exact ⟨g, o, cu, e, Nat.le_trans hB h1, h2, h3⟩

theorem OwnAts.set {w : World} {B : Nat} {a : Option Addr} {l : List At} (h : OwnAts w B a l) {g : Nat} (hg : g < B) (o : Nat) (v : Value) : OwnAts (w.setCell ⟨g, o, none⟩ v) B a l := by
  intro hl
  obtain ⟨g', o', cu, e, h1, h2, h3⟩ := h hl
  exact ⟨g', o', cu, e, h1, (heap_setCell_other w ⟨g, o, none⟩ g' v (by show ¬ g' = g; omega)).trans h2, h3⟩

end Go.Proofs.YtcjeodgfpnecgaaGreatDoor

namespace Go.Proofs.YtcjeodgfpnecgaaGreatDoor.Nd
open Go.RowKit
set_option linter.unusedVariables false
set_option linter.unusedSimpArgs false

/-- How many attrs they have together. -/
def sumA (ts : List Tk) : Nat := (ts.map fun t => t.attrs.length).sum

theorem sumA_snoc (ts : List Tk) (t : Tk) : sumA (ts ++ [t]) = sumA ts + t.attrs.length := by simp [sumA]

set_option maxHeartbeats 1000000 in
theorem cEqNode (t : Tk) (a c : Option Addr) (cap cap2 : Nat) (w : World) (hR : AtRow w a t.attrs) (hT : AtRow w c t.attrs) (hz : TkSz 1048576 t) :
    Calls Tryz.prog 22 #[tkV t a cap, tkV t c cap2] w fun e w' => e = .returned (.bool true) ∧ Below w.heap.size w w' := by
  obtain ⟨k, name, l, text⟩ := t
  obtain ⟨h1, h2, h3, h4⟩ := hz
  simp only at hR hT h1 h2 h3 h4
  simp only [tkV]
  have HB0 := hid (((Below.refl w.heap.size w).alloc (Nat.le_refl _) (.cells #[.int .i64 k, .string name, .slice a l.length cap, .string text] 44)).alloc (by simp) (.cells #[.int .i64 k, .string name, .slice c l.length cap2, .string text] 44))
  have HR := hid (hR.below HB0.out)
  have HT := hid (hT.below HB0.out)
  have C := fun (w : World) (hR : AtRow w a l) (hT : AtRow w c l) => cEqAttrS a c cap cap2 l w hR hT h3 h2
  clear hR hT h3 h2
  obtain ⟨n, hn⟩ : ∃ n, l.length = n := ⟨_, rfl⟩
  rw [hn] at C HR HT HB0 ⊢
  clear hn
  go_enter Tryz.func22, Tryz.ntmps22
  go_wp2_with fail
  refine (C _ HR.out HT.out).mono ?_
  rintro e w1 ⟨rfl, hb1⟩
  obtain ⟨hc, hf⟩ := bcell hb1
  have HB1 := hid (bb HB0.out hb1)
  have hz0 : w.heap.size + 1 < w1.heap.size := by have := hb1.size; simp at this; omega
  go_wp2_with fail
  go_ret
  exact ⟨rfl, HB1.out⟩

set_option maxRecDepth 8000 in
set_option maxHeartbeats 2000000 in
theorem cEqNodeS (a c : Option Addr) (cap cap2 : Nat) (ts : List Tk) (w : World) (hR : TkRow w a ts) (hT : TkRow w c ts) (hz : TksSz 1048576 ts) (hn : ts.length ≤ 1048576) :
    Calls Tryz.prog 8 #[.slice a ts.length cap, .slice c ts.length cap2] w fun e w' => e = .returned (.bool true) ∧ Below w.heap.size w w' := by
  have HR := hid hR
  have HT := hid hT
  have HZ := hid hz
  clear hR hT hz
  obtain ⟨n, hnn⟩ : ∃ n, ts.length = n := ⟨_, rfl⟩
  have HN := hid hnn
  rw [hnn] at hn ⊢
  clear hnn
  go_enter Tryz.func8, Tryz.ntmps8
  go_wp2
  go_loopw [5] (fun k wr => ∃ i : Nat, k = .int .i64 (i : Int) ∧ i ≤ n ∧ Hid (Below w.heap.size w wr)) (fun k _ => n - (intOf k).toNat)
  case atStart => exact ⟨0, rfl, Nat.zero_le _, Below.refl _ _⟩
  case round =>
    obtain ⟨i, rfl, hi, HB⟩ := hrel
    by_cases hlt : i < n
    · have his : i < ts.length := by rw [HN.out]; exact hlt
      have hin : (i : Int) < (n : Int) := by omega
      obtain ⟨b, o, aa, ca, rfl, hb, c0, c1, c2, c3, cr⟩ := HR.out.below HB.out i his
      obtain ⟨b2, o2, aa2, ca2, rfl, hb', k0, k1, k2, k3, kr⟩ := HT.out.below HB.out i his
      have C := fun (w : World) (h : AtRow w aa ts[i].attrs) (h2 : AtRow w aa2 ts[i].attrs) => cEqNode ts[i] aa aa2 ca ca2 w h h2 (HZ.out _ (List.getElem_mem his))
      have CR := hid cr
      have KR := hid kr
      have CC := fun p : BW wr => C p.w (CR.out.below p.h) (KR.out.below p.h)
      obtain ⟨d0, d1, d2, d3⟩ := quad_bw hb c0 c1 c2 c3
      obtain ⟨j0, j1, j2, j3⟩ := quad_bw hb' k0 k1 k2 k3
      have HNB := hid (bw_any wr)
      clear c0 c1 c2 c3 k0 k1 k2 k3 cr kr C
      go_wp2_with fail
      haveI := HNB.out
      refine wp_region_below (by kernel_rfl) (by kernel_rfl) (Below.refl wr.heap.size wr) ?_
      repeat (go_big_quiet_step ((go_at_call 22; exact calls_bw _ (CC _))))
      refine wpQuiet_nil ?_
      intro w2 hw'
      obtain ⟨⟨wx, hb2⟩, hw''⟩ := hw'
      subst hw''
      have HB2 := hid (bb HB.out hb2)
      clear this HNB CC d0 d1 d2 d3 j0 j1 j2 j3 hb2
      go_wp2_with fail
      go_roundw
      case rel => exact ⟨i + 1, by go_num, by omega, HB2.out⟩
      case measure => simp [intOf]; omega
    · have hie : i = n := by omega
      subst hie
      go_wp2_with fail
      go_ret
      exact ⟨rfl, HB.out⟩

theorem infoTk : (Tryz.prog.info? 44).map (fun i => (i.zero, i.size, i.bytes)) = some (some (.agg #[.int .i64 0, .string ⟨#[]⟩, .slice none 0 0, .string ⟨#[]⟩]), 4, 64) := by kernel_rfl

theorem makeTk (w : World) (n : Nat) (hn : n ≤ 1048576) : ∃ v w', (Instr.makeSlice 26 (.int .i64 (n : Int)) (.int .i64 (n : Int))).run Tryz.prog w = .ok v w' ∧ v = .slice (some ⟨w.heap.size, 0, none⟩) n n ∧ (∃ cur : Array Value, w'.heap[w.heap.size]? = some (.cells cur 44 (0, 0)) ∧ cur.size = n * 4) ∧ w.grownBy w' none := by
  obtain ⟨i0, hi, hz0, hz1, hz2⟩ := info_parts infoTk
  obtain ⟨w', hrun, r1, r2⟩ := run_make_full (P := Tryz.prog) w w.heap.size 26 44 i0 _ 4 Tryz.underlying26 hi hz0 hz1 .i64 .i64 n (by rw [hz2]; omega) (by unfold maxLen; omega) (Nat.le_refl _)
  refine ⟨_, w', hrun, rfl, ?_, r2⟩
  rcases r1.2 with ⟨h, _⟩ | ⟨g, cap', cur, h, hgb, hh, _, _, hsz, _⟩
  · cases h
  · cases h
    exact ⟨cur, hh, by omega⟩

/-- The first i of these lie in the cells, each list in a block of its own behind g, later ones later. -/
structure Laid (ts : List Tk) (g i : Nat) (G : Nat → Nat) (cur : Array Value) (wr : World) : Prop where
  cells : ∀ j (h : j < ts.length), j < i → cur[j * 4]? = some (.int .i64 ts[j].kind) ∧ cur[j * 4 + 1]? = some (.string ts[j].name) ∧ cur[j * 4 + 2]? = some (.slice (some ⟨G j, 0, none⟩) ts[j].attrs.length ts[j].attrs.length) ∧ cur[j * 4 + 3]? = some (.string ts[j].text)
  row : ∀ j (h : j < ts.length), j < i → g < G j ∧ ∃ cu, wr.heap[G j]? = some (.cells cu 58 (0, 0)) ∧ AtCells cu 0 ts[j].attrs
  later : ∀ j k, j < k → k < i → G j < G k

theorem Laid.start (ts : List Tk) (g : Nat) (cur : Array Value) (wr : World) : Laid ts g 0 (fun _ => 0) cur wr := ⟨fun j _ h => by omega, fun j _ h => by omega, fun j k _ h => by omega⟩

theorem Laid.below {ts : List Tk} {g i : Nat} {G : Nat → Nat} {cur : Array Value} {wr w' : World} (h : Laid ts g i G cur wr) (hb : Below wr.heap.size wr w') : Laid ts g i G cur w' :=
  ⟨h.cells, fun j hj hi => ⟨(h.row j hj hi).1, by
    obtain ⟨_, cu, hh, hc⟩ := h.row j hj hi
    exact ⟨cu, (hb.block _ (lt_of_heap hh)).trans hh, hc⟩⟩, h.later⟩

theorem Laid.set {ts : List Tk} {g i : Nat} {G : Nat → Nat} {cur : Array Value} {wr : World} (h : Laid ts g i G cur wr) (o : Nat) (v : Value) : Laid ts g i G cur (wr.setCell ⟨g, o, none⟩ v) :=
  ⟨h.cells, fun j hj hi => ⟨(h.row j hj hi).1, by
    obtain ⟨hg, cu, hh, hc⟩ := h.row j hj hi
    exact ⟨cu, (Below.heap_setCell wr _ v _ (by simp; omega)).trans hh, hc⟩⟩, h.later⟩

abbrev put4 (cur : Array Value) (i : Nat) (x y z u : Value) : Array Value := (((cur.setIfInBounds (i * 4) x).setIfInBounds (i * 4 + 1) y).setIfInBounds (i * 4 + 2) z).setIfInBounds (i * 4 + 3) u

theorem put4_same {cur : Array Value} {i n : Nat} {x y z u : Value} (hs : cur.size = n * 4) (hi : i < n) : (put4 cur i x y z u)[i * 4]? = some x ∧ (put4 cur i x y z u)[i * 4 + 1]? = some y ∧ (put4 cur i x y z u)[i * 4 + 2]? = some z ∧ (put4 cur i x y z u)[i * 4 + 3]? = some u := by
  refine ⟨?_, ?_, ?_, ?_⟩ <;> simp [put4, Array.getElem?_setIfInBounds, hs] <;> omega

theorem put4_other {cur : Array Value} {i j : Nat} {x y z u : Value} (h : ¬ i = j) (r : Nat) (hr : r < 4) : (put4 cur i x y z u)[j * 4 + r]? = cur[j * 4 + r]? := by
  simp only [put4, Array.getElem?_setIfInBounds]
  rw [if_neg (by omega), if_neg (by omega), if_neg (by omega), if_neg (by omega)]

theorem Laid.next {ts : List Tk} {g i n : Nat} {G : Nat → Nat} {cur : Array Value} {wr : World} (h : Laid ts g i G cur wr) (hi : i < ts.length) (hn : i < n) (hs : cur.size = n * 4) {gi : Nat} {cu : Array Value} (h1 : g < gi) (hl : ∀ j, j < i → G j < gi) (h2 : wr.heap[gi]? = some (.cells cu 58 (0, 0))) (hr : AtCells cu 0 ts[i].attrs) :
    Laid ts g (i + 1) (fun j => if j = i then gi else G j) (put4 cur i (.int .i64 ts[i].kind) (.string ts[i].name) (.slice (some ⟨gi, 0, none⟩) ts[i].attrs.length ts[i].attrs.length) (.string ts[i].text)) wr := by
  refine ⟨fun j hj hlt => ?_, fun j hj hlt => ?_, fun j k hjk hk => ?_⟩
  · by_cases e : j = i
    · subst e
      rw [if_pos rfl]
      exact put4_same hs hn
    · rw [if_neg e]
      have := h.cells j hj (by omega)
      have ne : ¬ i = j := fun x => e x.symm
      exact ⟨(put4_other ne 0 (by omega)).trans this.1, (put4_other ne 1 (by omega)).trans this.2.1, (put4_other ne 2 (by omega)).trans this.2.2.1, (put4_other ne 3 (by omega)).trans this.2.2.2⟩
  · by_cases e : j = i
    · subst e
      simp only [if_true]
      exact ⟨h1, cu, h2, hr⟩
    · simp only [if_neg e]
      exact h.row j hj (by omega)
  · by_cases e : k = i
    · subst e
      simp only [if_true, if_neg (show ¬ j = k by omega)]
      exact hl j hjk
    · simp only [if_neg e, if_neg (show ¬ j = i by omega)]
      exact h.later j k hjk (by omega)

theorem Laid.tkRow {ts : List Tk} {g : Nat} {G : Nat → Nat} {cur : Array Value} {wr : World} (h : Laid ts g ts.length G cur wr) (hh : wr.heap[g]? = some (.cells cur 44 (0, 0))) : TkRow wr (some ⟨g, 0, none⟩) ts := by
  intro j hj
  obtain ⟨c0, c1, c2, c3⟩ := h.cells j hj hj
  refine ⟨g, 0, some ⟨G j, 0, none⟩, ts[j].attrs.length, rfl, lt_of_heap hh, ?_, ?_, ?_, ?_, by obtain ⟨_, cu, h1, h2⟩ := h.row j hj hj; exact h2.atRow h1⟩
  · rw [Lib.cell_of_heap hh, Nat.zero_add]; exact c0
  · rw [Lib.cell_of_heap hh, Nat.zero_add]; exact c1
  · rw [Lib.cell_of_heap hh, Nat.zero_add]; exact c2
  · rw [Lib.cell_of_heap hh, Nat.zero_add]; exact c3

end Go.Proofs.YtcjeodgfpnecgaaGreatDoor.Nd

namespace Go.Proofs.YtcjeodgfpnecgaaGreatDoor
open Go.RowKit
set_option linter.unusedVariables false
set_option linter.unusedSimpArgs false

/-- copy of a row into a new one of the same length. -/
theorem run_copyN (W : World) (g n dc : Nat) (sa : Option Addr) (sc : Nat)
    (cur : Array Value) (hg : W.heap[g]? = some (.cells cur 44 (0, 0))) (hcu : cur.size = n * 4) (cs : List Value) (hcl : cs.length = n * 4) (hsrc : ∀ ad, sa = some ad → ∀ j v, cs[j]? = some v → W.cell? (ad.add j) = some v) (hnil : sa = none → n = 0) (h1 : ∀ v ∈ cs, v.oneCell' = true) :
    ∃ w', (∀ ty, (Builtin.copy_ #[26, 26] ty #[.slice (some ⟨g, 0, none⟩) n dc, .slice sa n sc]).run Tryz.prog W = .ok (goInt n) w') ∧ w'.heap[g]? = some (.cells cs.toArray 44 (0, 0)) ∧ Below g W w' := by
  obtain ⟨i0, hi, hz0, hz1, hz2⟩ := info_parts Nd.infoR
  have hf : (Builtin.firstCells i0.size n (.slice sa n sc)).run Tryz.prog W = .ok cs.toArray W := by
    cases sa with
    | none =>
      have h0 := hnil rfl
      subst h0
      have h0 : cs = [] := List.eq_nil_of_length_eq_zero (by simpa using hcl)
      rw [h0]
      exact run_firstCells_none W _ _ _ _
    | some ad => exact run_firstCells_some W _ _ ad _ _ cs (by rw [hz1]; exact hcl) (hsrc ad rfl)
  have hst := run_storeCells_at Tryz.prog g 0 44 cs 0 cur W hg (by rw [hcu, ← hcl]; omega) h1
  have hrow : (cur.toList.take (0 + 0) ++ cs ++ cur.toList.drop (0 + 0 + cs.length)).toArray = cs.toArray := by
    rw [List.drop_of_length_le (by simp; omega)]
    simp
  rw [hrow] at hst
  refine ⟨W.setRow g cs.toArray, fun ty => ?_, setRow_heap W g _ _ _ _ hg, below_setRow (Below.refl _ _) (Nat.le_refl _) _⟩
  simp [Builtin.copy_, run_underlying Tryz.underlying26, Builtin.lenOf, sizeOf, typeInfo, hi, hf, hst]

/-- A row as cells, wherever it lies. -/
theorem rowA {w : World} {a : Option Addr} {ts : List Tk} (h : TkRow w a ts) : ∃ es : List Nd.E, es.map (·.t) = ts ∧ (∀ ad, a = some ad → ∀ j u, (Nd.cs es)[j]? = some u → w.cell? (ad.add j) = some u) ∧ (a = none → ts.length = 0) := by
  cases ts with
  | nil => exact ⟨[], rfl, fun ad _ j u hj => by simp [Nd.cs] at hj, fun _ => rfl⟩
  | cons t ts =>
    obtain ⟨b, o, aa, ca, e, _⟩ := h 0 (by simp)
    subst e
    obtain ⟨es, e1, e2, _⟩ := rowG h (t :: ts).length (Nat.le_refl _)
    rw [List.take_of_length_le (Nat.le_refl _)] at e1
    exact ⟨es, e1, fun ad ha => by cases ha; exact e2, fun h => by cases h⟩

/-- A node whose Parent is from here on is so much further. -/
def mvT (k b : Int) (t : Tk) : Tk := if k ≤ t.kind then shK (t.kind + b) t else t

def mvL (k b : Int) (ts : List Tk) : List Tk := ts.map (mvT k b)

/-- The first ones are told anew, with attrs of their own; the others are as they were copied. -/
structure MvR (w wr : World) (g : Nat) (i : Nat) (M : List Tk) (es : List Nd.E) : Prop where
  bel : Below w.heap.size w wr
  ge : w.heap.size ≤ g
  heap : wr.heap[g]? = some (.cells (Nd.cs es).toArray 44 (0, 0))
  map : es.map (·.t) = M
  ats : ∀ e ∈ es.take i, OwnAts wr w.heap.size e.a e.t.attrs ∧ ∀ g' o, 0 < e.t.attrs.length → e.a = some ⟨g', o, none⟩ → ¬ g' = g
  apart : (es.take i).Pairwise Nd.Apart

theorem MvR.below {w wr w' : World} {g i : Nat} {M : List Tk} {es : List Nd.E} (h : MvR w wr g i M es) (hb : Below wr.heap.size wr w') : MvR w w' g i M es :=
  ⟨bb h.bel hb, h.ge, blk_below h.heap hb, h.map, fun e he => ⟨(h.ats e he).1.below hb, (h.ats e he).2⟩, h.apart⟩

theorem MvR.at {w wr : World} {g i : Nat} {M : List Tk} {es : List Nd.E} (h : MvR w wr g i M es) {t : Tk} {x : Nat} (hx : M[x]? = some t) : ∃ hl : x < es.length, es[x].t = t := by
  have hxl : x < es.length := by
    rcases Nat.lt_or_ge x es.length with h' | h'
    · exact h'
    · rw [← h.map, List.getElem?_eq_none (by rw [List.length_map]; omega)] at hx; cases hx
  refine ⟨hxl, ?_⟩
  have : (es.map (·.t))[x]? = some t := by rw [h.map]; exact hx
  rw [List.getElem?_map, List.getElem?_eq_getElem hxl] at this
  exact Option.some.inj this

theorem MvR.cells {w wr : World} {g i : Nat} {M : List Tk} {es : List Nd.E} (h : MvR w wr g i M es) {t : Tk} {x : Nat} (hx : M[x]? = some t) :
    (wr.cell? ⟨g, x * 4, none⟩ = some (.int .i64 t.kind) ∧ wr.cell? ⟨g, x * 4 + 1, none⟩ = some (.string t.name) ∧ (∃ aa ca, wr.cell? ⟨g, x * 4 + 2, none⟩ = some (.slice aa t.attrs.length ca)) ∧ wr.cell? ⟨g, x * 4 + 3, none⟩ = some (.string t.text)) ∧ ∀ j, wr.frozen? ⟨g, j, none⟩ = false := by
  obtain ⟨hl, ht⟩ := h.at hx
  obtain ⟨k0, k1, k2, k3⟩ := Nd.cs_get es x hl
  have hc : ∀ j, wr.cell? ⟨g, j, none⟩ = (Nd.cs es)[j]? := fun j => by rw [Lib.cell_of_heap h.heap]; simp
  rw [ht] at k0 k1 k2 k3
  exact ⟨⟨(hc _).trans k0, (hc _).trans k1, ⟨_, _, (hc _).trans k2⟩, (hc _).trans k3⟩, fun j => Lib.frozen_of_heap h.heap j⟩

/-- .. in whatever world behind. -/
theorem MvR.later {w W0 : World} {g i : Nat} {M : List Tk} {es : List Nd.E} (h : MvR w W0 g i M es) {t : Tk} {x : Nat} (hx : M[x]? = some t) : ∃ aa ca,
    ((∀ W', Below W0.heap.size W0 W' → W'.cell? ⟨g, x * 4 + 1, none⟩ = some (.string t.name)) ∧ (∀ W', Below W0.heap.size W0 W' → W'.cell? ⟨g, x * 4 + 2, none⟩ = some (.slice aa t.attrs.length ca)) ∧ (∀ W', Below W0.heap.size W0 W' → W'.cell? ⟨g, x * 4 + 3, none⟩ = some (.string t.text)))
      ∧ ((∀ W', Below W0.heap.size W0 W' → W'.frozen? ⟨g, x * 4 + 1, none⟩ = false) ∧ (∀ W', Below W0.heap.size W0 W' → W'.frozen? ⟨g, x * 4 + 2, none⟩ = false) ∧ (∀ W', Below W0.heap.size W0 W' → W'.frozen? ⟨g, x * 4 + 3, none⟩ = false)) := by
  obtain ⟨⟨_, _, ⟨aa, ca, q2⟩, _⟩, _⟩ := h.cells hx
  have hlt : g < W0.heap.size := lt_of_heap h.heap
  refine ⟨aa, ca, ⟨fun W' hb => (h.below hb).cells hx |>.1.2.1, fun W' hb => (hb.cell (p := ⟨g, x * 4 + 2, none⟩) hlt).trans q2, fun W' hb => (h.below hb).cells hx |>.1.2.2.2⟩, fun W' hb => (h.below hb).cells hx |>.2 _, fun W' hb => (h.below hb).cells hx |>.2 _, fun W' hb => (h.below hb).cells hx |>.2 _⟩

theorem set3_far {w : World} {g b j o1 o2 o3 : Nat} {x y z : Value} (h : ¬ g = b) : (((w.setCell ⟨g, o1, none⟩ x).setCell ⟨g, o2, none⟩ y).setCell ⟨g, o3, none⟩ z).cell? ⟨b, j, none⟩ = w.cell? ⟨b, j, none⟩ := by
  rw [World.cell?_setCell_far _ _ _ _ h, World.cell?_setCell_far _ _ _ _ h, World.cell?_setCell_far _ _ _ _ h]

theorem set2_far {w : World} {g b j o1 o2 : Nat} {x y : Value} (h : ¬ g = b) : ((w.setCell ⟨g, o1, none⟩ x).setCell ⟨g, o2, none⟩ y).cell? ⟨b, j, none⟩ = w.cell? ⟨b, j, none⟩ := by
  rw [World.cell?_setCell_far _ _ _ _ h, World.cell?_setCell_far _ _ _ _ h]

theorem set1_far {w : World} {g b j o1 : Nat} {x : Value} (h : ¬ g = b) : (w.setCell ⟨g, o1, none⟩ x).cell? ⟨b, j, none⟩ = w.cell? ⟨b, j, none⟩ := World.cell?_setCell_far _ _ _ _ h

theorem cells_set {es : List Nd.E} (j : Nat) (v : Value) : (Nd.cs es).toArray.setIfInBounds j v = ((Nd.cs es).set j v).toArray := by simp

theorem take_set_snoc {α : Type} {l : List α} {i : Nat} (h : i < l.length) (x : α) : (l.set i x).take (i + 1) = l.take i ++ [x] := by
  rw [take_snocN (by rw [List.length_set]; exact h), List.take_set_of_le (Nat.le_refl _), List.getElem_set_self]

/-- The next one: its texts are cloned, its attrs copied. -/
theorem MvR.step {w wr w1 : World} {g i : Nat} {M : List Tk} {es : List Nd.E} (h : MvR w wr g i M es) {t : Tk} (hx : M[i]? = some t) (hb : Below wr.heap.size wr w1) {a1 : Option Addr} {c1 nA : Nat} (hnA : t.attrs.length = nA) (hA : OwnAts w1 wr.heap.size a1 t.attrs) :
    ∃ es', MvR w (((w1.setCell ⟨g, i * 4 + 1, none⟩ (.string t.name)).setCell ⟨g, i * 4 + 2, none⟩ (.slice a1 nA c1)).setCell ⟨g, i * 4 + 3, none⟩ (.string t.text)) g (i + 1) M es' := by
  obtain ⟨hl, ht⟩ := h.at hx
  subst hnA
  have hgw : g < wr.heap.size := lt_of_heap h.heap
  have hg1 := blk_below h.heap hb
  have e1 : (Nd.cs es).set (i * 4 + 1) (.string t.name) = Nd.cs es := by
    rw [cs_put hl (f := 1) (by decide) (e' := es[i]) (by rw [← ht]; rfl), List.set_getElem_self]
  have e2 : (Nd.cs es).set (i * 4 + 2) (.slice a1 t.attrs.length c1) = Nd.cs (es.set i ⟨t, a1, c1⟩) := cs_put hl (f := 2) (by decide) (by unfold Nd.c1; rw [ht]; rfl)
  have hl2 : i < (es.set i ⟨t, a1, c1⟩).length := by rw [List.length_set]; exact hl
  have e3 : (Nd.cs (es.set i ⟨t, a1, c1⟩)).set (i * 4 + 3) (.string t.text) = Nd.cs (es.set i ⟨t, a1, c1⟩) := by
    rw [cs_put hl2 (f := 3) (by decide) (e' := ⟨t, a1, c1⟩) (by rw [List.getElem_set_self]; rfl), List.set_set]
  have m1 := box_set hg1 (i * 4 + 1) (.string t.name)
  rw [cells_set, e1] at m1
  have m2 := box_set m1 (i * 4 + 2) (.slice a1 t.attrs.length c1)
  rw [cells_set, e2] at m2
  have m3 := box_set m2 (i * 4 + 3) (.string t.text)
  rw [cells_set, e3] at m3
  have hB := bb h.bel hb
  have hbw := h.bel.size
  have keep : ∀ (B : Nat) (a : Option Addr) (l : List At), OwnAts w1 B a l → (∀ g' o, 0 < l.length → a = some ⟨g', o, none⟩ → ¬ g' = g) → OwnAts (((w1.setCell ⟨g, i * 4 + 1, none⟩ (.string t.name)).setCell ⟨g, i * 4 + 2, none⟩ (.slice a1 t.attrs.length c1)).setCell ⟨g, i * 4 + 3, none⟩ (.string t.text)) B a l := by
    intro B a l hO hne hp
    obtain ⟨g1, o1, cu, q1, q2, q3, q4⟩ := hO hp
    have hn := hne g1 o1 hp q1
    refine ⟨g1, o1, cu, q1, q2, ?_, q4⟩
    rw [heap_setCell_other _ _ g1 _ hn, heap_setCell_other _ _ g1 _ hn, heap_setCell_other _ _ g1 _ hn]
    exact q3
  have hnew : ∀ g' o, 0 < t.attrs.length → a1 = some ⟨g', o, none⟩ → ¬ g' = g := by
    intro g' o hp e
    obtain ⟨g1, o1, cu, q1, q2, _⟩ := hA hp
    rw [e] at q1
    cases q1
    omega
  refine ⟨es.set i ⟨t, a1, c1⟩, ((hB.setCell (p := ⟨g, i * 4 + 1, none⟩) h.ge _).setCell (p := ⟨g, i * 4 + 2, none⟩) h.ge _).setCell (p := ⟨g, i * 4 + 3, none⟩) h.ge _, h.ge, m3, ?_, ?_, ?_⟩
  · rw [List.map_set, h.map]
    refine List.ext_getElem? fun j => ?_
    rw [List.getElem?_set]
    split
    · rename_i hj
      subst hj
      rw [hx]
      split
      · rfl
      · rename_i hh
        rw [List.getElem?_eq_none (by omega)] at hx
        cases hx
    · rfl
  · rw [take_set_snoc hl]
    intro e he
    rcases List.mem_append.1 he with h' | h'
    · exact ⟨keep _ _ _ ((h.ats e h').1.below hb) (h.ats e h').2, (h.ats e h').2⟩
    · rw [List.mem_singleton] at h'
      subst h'
      exact ⟨keep _ _ _ (own_lift hA hbw) hnew, hnew⟩
  · rw [take_set_snoc hl]
    refine List.pairwise_append.2 ⟨h.apart, List.pairwise_singleton _ _, fun e he f hf => ?_⟩
    rw [List.mem_singleton] at hf
    subst hf
    intro hp hp' g1 o1 g2 o2 q1 q2 q3
    obtain ⟨k1, ko, cu, r1, r2, r3, _⟩ := (h.ats e he).1 hp
    obtain ⟨k2, ko2, cu2, s1, s2, _⟩ := hA hp'
    rw [q1] at r1
    cases r1
    have s1' : (some ⟨g2, o2, none⟩ : Option Addr) = some ⟨k2, ko2, none⟩ := q2.symm.trans s1
    cases s1'
    have := lt_of_heap r3
    omega

/-- .. and its Parent. -/
theorem MvR.kind {w wr : World} {g i : Nat} {M : List Tk} {es : List Nd.E} (h : MvR w wr g (i + 1) M es) {t : Tk} (hx : M[i]? = some t) (k : Int) : ∃ es', MvR w (wr.setCell ⟨g, i * 4, none⟩ (.int .i64 k)) g (i + 1) (M.set i (shK k t)) es' := by
  obtain ⟨hl, ht⟩ := h.at hx
  have hgw : g < wr.heap.size := lt_of_heap h.heap
  have e0 : (Nd.cs es).set (i * 4) (.int .i64 k) = Nd.cs (es.set i ⟨shK k t, es[i].a, es[i].cap⟩) := cs_put hl (f := 0) (by decide) (by unfold Nd.c1; rw [ht]; rfl)
  have m1 := box_set h.heap (i * 4) (.int .i64 k)
  rw [cells_set, e0] at m1
  have keep : ∀ (B : Nat) (a : Option Addr) (l : List At), OwnAts wr B a l → (∀ g' o, 0 < l.length → a = some ⟨g', o, none⟩ → ¬ g' = g) → OwnAts (wr.setCell ⟨g, i * 4, none⟩ (.int .i64 k)) B a l := by
    intro B a l hO hne hp
    obtain ⟨g1, o1, cu, q1, q2, q3, q4⟩ := hO hp
    refine ⟨g1, o1, cu, q1, q2, ?_, q4⟩
    rw [heap_setCell_other _ _ g1 _ (hne g1 o1 hp q1)]
    exact q3
  have hm : ∀ e ∈ es.take i, e ∈ es.take (i + 1) := fun e he => by rw [take_snocN hl]; exact List.mem_append_left _ he
  have hlast : es[i] ∈ es.take (i + 1) := by rw [take_snocN hl]; exact List.mem_append_right _ (List.mem_singleton.2 rfl)
  have hpa := h.apart
  rw [take_snocN hl, List.pairwise_append] at hpa
  have hai := h.ats _ hlast
  rw [ht] at hai
  refine ⟨es.set i ⟨shK k t, es[i].a, es[i].cap⟩, h.bel.setCell (p := ⟨g, i * 4, none⟩) h.ge _, h.ge, m1, by rw [List.map_set, h.map], ?_, ?_⟩
  · rw [take_set_snoc hl]
    intro e he
    rcases List.mem_append.1 he with h' | h'
    · exact ⟨keep _ _ _ (h.ats e (hm e h')).1 (h.ats e (hm e h')).2, (h.ats e (hm e h')).2⟩
    · rw [List.mem_singleton] at h'
      subst h'
      exact ⟨keep _ _ _ hai.1 hai.2, hai.2⟩
  · rw [take_set_snoc hl]
    refine List.pairwise_append.2 ⟨hpa.1, List.pairwise_singleton _ _, fun e he f hf => ?_⟩
    rw [List.mem_singleton] at hf
    subst hf
    have hh := hpa.2.2 e he es[i] (by simp)
    unfold Nd.Apart at hh ⊢
    rw [ht] at hh
    exact hh

/-- All of them. -/
theorem MvR.row {w wr : World} {g n : Nat} {M : List Tk} {es : List Nd.E} (h : MvR w wr g n M es) (hn : M.length = n) (hm : n ≤ 1048576) : RowOf w wr (.slice (some ⟨g, 0, none⟩) n n) M := by
  have hl : es.length = n := by rw [← hn, ← h.map, List.length_map]
  have hall : es.take n = es := List.take_of_length_le (by omega)
  have ha := h.ats
  have hp := h.apart
  rw [hall] at ha hp
  subst hl
  exact ⟨⟨es, _, _, rfl, ⟨⟨Nd.cs_len es, .inr ⟨g, es.length, _, rfl, h.ge, h.heap, Nat.le_refl _, by unfold maxLen; omega, by simp [Nd.cs_len], by simp [← Nd.cs_len]⟩⟩, fun e he => ⟨(ha e he).1, fun g' o hl e1 e2 => (ha e he).2 g' o hl e1 (by simp [Value.ownBlock] at e2; exact e2.symm)⟩, hp⟩, h.map⟩, h.bel⟩

/-- So far. -/
def mvI (k b : Int) (ts : List Tk) (i : Nat) : List Tk := (ts.take i).map (mvT k b) ++ ts.drop i

theorem mvI_at {k b : Int} {ts : List Tk} {i : Nat} (h : i < ts.length) : (mvI k b ts i)[i]? = some ts[i] := by
  unfold mvI
  rw [List.getElem?_append_right (by simp; omega)]
  simp only [List.length_map, List.length_take, Nat.min_eq_left (Nat.le_of_lt h), Nat.sub_self, List.getElem?_drop, Nat.add_zero]
  exact List.getElem?_eq_getElem h

theorem mvI_set {k b : Int} {ts : List Tk} {i : Nat} (h : i < ts.length) (x : Tk) (hx : mvT k b ts[i] = x) : (mvI k b ts i).set i x = mvI k b ts (i + 1) := by
  unfold mvI
  rw [List.set_append, if_neg (by simp; exact Nat.min_le_left _ _), take_snocN h, List.map_append, List.append_assoc]
  congr 1
  simp only [List.length_map, List.length_take, Nat.min_eq_left (Nat.le_of_lt h), Nat.sub_self]
  rw [List.drop_eq_getElem_cons h, List.set_cons_zero]
  simp [hx]

theorem mvI_same {k b : Int} {ts : List Tk} {i : Nat} (h : i < ts.length) (hx : mvT k b ts[i] = ts[i]) : mvI k b ts i = mvI k b ts (i + 1) := by
  rw [← mvI_set h _ hx]
  refine List.ext_getElem? fun j => ?_
  rw [List.getElem?_set]
  split
  · rename_i hj
    subst hj
    rw [mvI_at h]
    split
    · rfl
    · rename_i hh
      exact absurd (by unfold mvI; simp; omega) hh
  · rfl

theorem mvI_all {k b : Int} {ts : List Tk} {n : Nat} (h : ts.length = n) : mvI k b ts n = mvL k b ts := by
  unfold mvI mvL
  rw [List.take_of_length_le (by omega), List.drop_of_length_le (by omega), List.append_nil]

theorem mvL_len (k b : Int) (ts : List Tk) : (mvL k b ts).length = ts.length := by simp [mvL]

set_option maxRecDepth 8000 in
set_option maxHeartbeats 8000000 in
theorem cMoved (a : Option Addr) (cap : Nat) (ts : List Tk) (k b : Int) (w : World) (hR : TkRow w a ts) (hn : ts.length ≤ 1048576) (hz : TksSz 1048576 ts) (hkb : ∀ t ∈ ts, k ≤ t.kind → -9223372036854775808 ≤ t.kind + b ∧ t.kind + b ≤ 9223372036854775807) :
    Calls Tryz.prog 44 #[.slice a ts.length cap, .int .i64 k, .int .i64 b] w fun e w' => ∃ c, e = .returned (.slice (some ⟨w.heap.size, 0, none⟩) ts.length c) ∧ RowOf w w' (.slice (some ⟨w.heap.size, 0, none⟩) ts.length c) (mvL k b ts) := by
  have HR := hid hR
  have HZ := hid hz
  have HKB := hid hkb
  clear hR hz hkb
  obtain ⟨n, hnn⟩ : ∃ n, ts.length = n := ⟨_, rfl⟩
  have HN := hid hnn
  rw [hnn] at hn ⊢
  clear hnn
  go_enter Tryz.func44, Tryz.ntmps44
  go_wp2_with fail
  refine upon_ex (Nd.makeTk w n hn) ?_
  rintro _ w1 ⟨rfl, ⟨cur, hcur, hcs⟩, hg⟩
  have HB1 := hid ((Below.refl w.heap.size w).grown hg (Nat.le_refl _) (by simp))
  have HC := hid hcur
  have HCS := hid hcs
  have HR1 := hid (HR.out.below HB1.out)
  clear hg hcur hcs
  obtain ⟨es, hm, hsrc, hnil⟩ := rowA HR1.out
  have HM := hid hm
  have HSRC := hid hsrc
  have HNIL := hid (show a = none → n = 0 from fun h => by rw [← HN.out]; exact hnil h)
  have HEL := hid (show (Nd.cs es).length = n * 4 by rw [Nd.cs_len, ← HN.out, ← HM.out, List.length_map])
  clear hm hsrc hnil
  obtain ⟨w2, hrun, hh2, hb2⟩ := run_copyN w1 w.heap.size n n a cap cur HC.out HCS.out (Nd.cs es) HEL.out HSRC.out HNIL.out (Nd.cs_cell es)
  have HX := hid (show MvR w w2 w.heap.size 0 (mvI k b ts 0) es from ⟨HB1.out.trans hb2, Nat.le_refl _, hh2, by unfold mvI; simp; exact HM.out, fun e he => absurd he (by simp), by simp⟩)
  clear hh2 hb2 HB1 HC HCS HR1 HSRC HNIL HEL HM
  go_wp2_with fail
  clear hrun
  go_loopw [18] (fun v wr => ∃ i : Nat, v = .int .i64 (i : Int) ∧ i ≤ n ∧ Hid (∃ es, MvR w wr w.heap.size i (mvI k b ts i) es)) (fun v _ => n - (intOf v).toNat)
  case atStart => exact ⟨0, rfl, Nat.zero_le _, _, HX.out⟩
  case round =>
    clear HX es
    obtain ⟨i, rfl, hin, HX⟩ := hrel
    by_cases hlt : i < n
    case neg =>
      have hie : i = n := by omega
      subst hie
      obtain ⟨es, hes⟩ := HX.out
      have HY := hid (hes.row (by rw [mvI_all HN.out, mvL_len, HN.out]) hn)
      rw [mvI_all HN.out] at HY
      clear hes
      go_wp2_with fail
      go_ret
      exact ⟨_, rfl, HY.out⟩
    have his : i < ts.length := by rw [HN.out]; exact hlt
    have hinn : (i : Int) < (n : Int) := by omega
    obtain ⟨es, hes⟩ := HX.out
    have HES := hid hes
    have HBW := hid hes.bel
    have HAT := hid (mvI_at (k := k) (b := b) his)
    have HSET := hid (fun x hx => mvI_set (k := k) (b := b) his x hx)
    have HSAME := hid (fun hx => mvI_same (k := k) (b := b) his hx)
    have HZT := hid (HZ.out _ (List.getElem_mem his))
    have HKT := hid (HKB.out _ (List.getElem_mem his))
    clear hes HX
    obtain ⟨bk, o, aa, ca, rfl, hb, q0, q1, q2, q3, hA⟩ := (HR.out.below HBW.out) i his
    have HAR := hid hA
    obtain ⟨t, ht⟩ : ∃ t, ts[i] = t := ⟨_, rfl⟩
    rw [ht] at q0 q1 q2 q3 HAR HZT HKT HAT HSET HSAME
    clear ht hA
    obtain ⟨M, hMM⟩ : ∃ M, mvI k b ts i = M := ⟨_, rfl⟩
    rw [hMM] at HES HAT HSET HSAME
    clear hMM
    obtain ⟨M', hMM⟩ : ∃ M, mvI k b ts (i + 1) = M := ⟨_, rfl⟩
    have HM' := hid hMM
    rw [hMM] at HSET HSAME
    clear hMM
    obtain ⟨K, nm, l, tx⟩ := t
    simp only at q0 q1 q2 q3 HAR HKT
    obtain ⟨z1, z2, z3, z4⟩ := HZT.out
    simp only at z1 z2 z3 z4
    have CX := hid (fun w => c_strings_Clone nm w z1)
    have CY := hid (fun w => c_strings_Clone tx w z4)
    have CA := hid (fun w (h : AtRow w aa l) => cCopiedAttrs aa ca l w h z3 z2)
    clear z1 z2 z3 z4 HZT
    obtain ⟨nA, hnA⟩ : ∃ nA, l.length = nA := ⟨_, rfl⟩
    have HNA := hid hnA
    rw [hnA] at q2 CA
    clear hnA
    have M0 := hid (heap_alloc_new wr (.cells #[.int .i64 K, .string nm, .slice aa nA ca, .string tx] 44))
    have HLA := hid ((Below.refl wr.heap.size wr).alloc (Nat.le_refl _) (.cells #[.int .i64 K, .string nm, .slice aa nA ca, .string tx] 44))
    have hne : ¬ w.heap.size = wr.heap.size := by have := lt_of_heap HES.out.heap; omega
    have HE0 := hid (HES.out.below HLA.out)
    have HA0 := hid (HAR.out.below HLA.out)
    go_wp2_with fail
    obtain ⟨W0, hW0⟩ : ∃ W0, wr.alloc (.cells #[.int .i64 K, .string nm, .slice aa nA ca, .string tx] 44) = W0 := ⟨_, rfl⟩
    rw [hW0] at M0 HLA HE0 HA0
    simp only [hW0]
    have HBc := hid ((Below.refl W0.heap.size W0).drew)
    have hbc := HBc.out
    obtain ⟨k0, k1, k2, k3, _, _, _, _⟩ := box4_later M0.out
    have R0 := hid k0
    have R1 := hid k1
    have R2 := hid k2
    have R3 := hid k3
    obtain ⟨xa, xc, ⟨s1, s2, s3⟩, f1, f2, f3⟩ := HE0.out.later HAT.out
    simp only at s1 s2 s3
    clear hW0 k0 k1 k2 k3 q0 q1 q2 q3
    go_region_held3 (fun w' => w'.cell? ⟨wr.heap.size, 0, none⟩ = some (.int .i64 K) ∧ w'.cell? ⟨wr.heap.size, 1, none⟩ = some (.string nm) ∧ w'.cell? ⟨wr.heap.size, 2, none⟩ = some (.slice aa nA ca) ∧ w'.cell? ⟨wr.heap.size, 3, none⟩ = some (.string tx)) (first | with_reducible exact ⟨R0.out _ HBc.out, R1.out _ HBc.out, R2.out _ HBc.out, R3.out _ HBc.out⟩ | with_reducible exact ⟨(set1_far hne).trans (R0.out _ HBc.out), (set1_far hne).trans (R1.out _ HBc.out), (set1_far hne).trans (R2.out _ HBc.out), (set1_far hne).trans (R3.out _ HBc.out)⟩ | with_reducible exact ⟨(set2_far hne).trans (R0.out _ HBc.out), (set2_far hne).trans (R1.out _ HBc.out), (set2_far hne).trans (R2.out _ HBc.out), (set2_far hne).trans (R3.out _ HBc.out)⟩ | with_reducible exact ⟨(set3_far hne).trans (R0.out _ HBc.out), (set3_far hne).trans (R1.out _ HBc.out), (set3_far hne).trans (R2.out _ HBc.out), (set3_far hne).trans (R3.out _ HBc.out)⟩)
      (first
        | (go_at_call 68; refine (CX.out _).mono ?_; rintro e w1 ⟨rfl, hb1⟩; replace HBc := hid (bb HBc.out hb1); have hbc := HBc.out; clear hb1)
        | (go_at_call 68; refine (CY.out _).mono ?_; rintro e w1 ⟨rfl, hb1⟩; replace HA1 := hid (HA1.out.below hb1); replace HBc := hid (bb HBc.out hb1); have hbc := HBc.out; clear hb1)
        | (go_at_call 69; refine (CA.out _ (HA0.out.below HBc.out)).mono ?_; rintro e w1 ⟨a1, cc1, rfl, ha1, hb1⟩; have HA1 := hid (ha1.mono HBc.out.size); replace HBc := hid (bb HBc.out hb1); have hbc := HBc.out; clear hb1 ha1))
    rename_i hHeld
    obtain ⟨c0, _⟩ := hHeld
    obtain ⟨es', hes'⟩ := HES.out.step HAT.out (bb HLA.out HBc.out) (nA := nA) (c1 := cc1) (a1 := a1) HNA.out (own_lift HA1.out HLA.out.size)
    simp only at hes'
    have HMV := hid hes'
    clear hes' s1 s2 s3 f1 f2 f3 R0 R1 R2 R3 HA1 HBc hbc HA0 HE0 HLA M0 CX CY CA HAR
    generalize (((_ : World).setCell ⟨w.heap.size, i * 4 + 1, none⟩ (.string nm)).setCell ⟨w.heap.size, i * 4 + 2, none⟩ (.slice a1 nA cc1)).setCell ⟨w.heap.size, i * 4 + 3, none⟩ (.string tx) = W at *
    obtain ⟨⟨d0, _, _, _⟩, d4⟩ := HMV.out.cells HAT.out
    have d5 := d4 (i * 4)
    clear d4
    by_cases hk : k ≤ K
    · obtain ⟨y1, y2⟩ := HKT.out hk
      have HNX := hid (HSET.out (shK (K + b) ⟨K, nm, l, tx⟩) (by unfold mvT; rw [if_pos hk]))
      have HFN := hid (HMV.out.kind HAT.out (K + b))
      rw [HNX.out] at HFN
      clear HNX HMV HSET HSAME HKT
      go_wp2_with fail
      go_roundw
      case rel => exact ⟨i + 1, by go_num, by omega, by rw [HM'.out]; exact HFN.out⟩
      case measure => simp [intOf]; omega
    · have HNX := hid (HSAME.out (by unfold mvT; rw [if_neg hk]))
      rw [HNX.out] at HMV
      clear HNX HSET HSAME HKT
      go_wp2_with fail
      go_roundw
      case rel => exact ⟨i + 1, by go_num, by omega, by rw [HM'.out]; exact ⟨_, HMV.out⟩⟩
      case measure => simp [intOf]; omega

end Go.Proofs.YtcjeodgfpnecgaaGreatDoor
