/- Rows of nodes, as the exact laws size, copy and compare them. A row of tokens of which every list owns its memory: marks in it, set and held. A copy of attrs, in memory of its own. A row of nodes that grows, every list of it in a block of its own. -/
import Derived.Test.YtnbpcgeojmikoaaGreatDoorM3
import Derived.Maps.AppendAt
import Derived.Deep.Upon
namespace Go.Proofs.YtnbpcgeojmikoaaGreatDoor.Nd
open Go.RowKit
set_option linter.unusedVariables false
set_option linter.unusedSimpArgs false

/-- How many attrs they have together. -/
def sumA (ts : List Tk) : Nat := (ts.map fun t => t.attrs.length).sum

theorem sumA_snoc (ts : List Tk) (t : Tk) : sumA (ts ++ [t]) = sumA ts + t.attrs.length := by simp [sumA]

set_option maxHeartbeats 2000000 in
theorem cSzNodeL (t : Tk) (a : Option Addr) (cap L : Nat) (w : World) (hR : AtRow w a t.attrs) (hs : TkSz maxLen t) (hL : L ≤ 1048576) :
    Calls Tryz.prog 48 #[tkV t a cap, .int .i64 L] w fun e w' => ∃ r : Int, e = .returned (.int .i64 r) ∧ (r = -1 ∨ 0 ≤ r ∧ r + t.attrs.length ≤ L ∧ TkSz L t) ∧ Below w.heap.size w w' := by
  obtain ⟨k, name, l, text⟩ := t
  obtain ⟨h1, h2, h3, h4⟩ := hs
  simp only at hR h1 h2 h3 h4
  have HR := hid (hR.below ((Below.refl w.heap.size w).alloc (Nat.le_refl _) (.cells #[.int .i64 k, .string name, .slice a l.length cap, .string text] 86)))
  have C := fun (M : Nat) (hM : M ≤ 1048576) (w : World) (hR : AtRow w a l) => cSzAttrS2 a cap l M w hR h3 h2 hM
  clear hR h3 h2
  have HT : Hid (∀ M : Nat, M ≤ L → name.size ≤ L → l.length ≤ M → AtSz M l → text.size ≤ L → TkSz L ⟨k, name, l, text⟩) :=
    fun M hM a b c d => ⟨a, by show l.length ≤ L; omega, fun x hx => by have := c x hx; omega, d⟩
  simp only [tkV]
  obtain ⟨n, hn⟩ : ∃ n, l.length = n := ⟨_, rfl⟩
  have HNL := hid hn
  rw [hn] at C HR HT ⊢
  clear hn
  unfold maxLen at h1 h4
  by_cases g1 : (L : Int) - name.size < 0
  · clear C
    go_enter Tryz.func48, Tryz.ntmps48
    go_wp2
    go_ret
    exact ⟨-1, rfl, .inl rfl, (Below.refl _ _).alloc (Nat.le_refl _) _⟩
  · obtain ⟨M, hM⟩ : ∃ M : Nat, (L : Int) - name.size = M := ⟨L - name.size, by omega⟩
    have hM1 : M ≤ 1048576 := by omega
    have C := C M hM1
    have e1 : wrap64 ((L : Int) - (name.size : Int)) = (M : Int) := (IntWalk.wrap64_in _ (by omega)).trans hM
    have e2 : IntKind.i64.wrap ((L : Int) - (name.size : Int)) = (M : Int) := (IntWalk.i64_in _ (by omega)).trans hM
    have hn1 : name.size ≤ L := by omega
    have hML : M ≤ L := by omega
    have HM := hid hM
    clear hM g1
    go_enter Tryz.func48, Tryz.ntmps48
    go_wp2_with fail
    refine (C _ HR.out).mono ?_
    rintro e w1 ⟨r, rfl, hr, hb1⟩
    obtain ⟨hc, hf⟩ := bcell hb1
    have HB1 := hid (((Below.refl w.heap.size w).alloc (Nat.le_refl _) _).trans (hb1.mono (by simp)))
    rcases hr with rfl | ⟨r0, r1, r2, r3, r4⟩
    · go_wp2_with fail
      go_ret
      exact ⟨-1, rfl, .inl rfl, HB1.out⟩
    · obtain ⟨R, rfl⟩ : ∃ R : Nat, r = R := ⟨r.toNat, by omega⟩
      have H3 := hid r3
      clear r3
      by_cases g2 : (R : Int) - text.size < 0
      · go_wp2
        go_ret
        exact ⟨-1, rfl, .inl rfl, HB1.out⟩
      · go_wp2
        go_ret
        exact ⟨(R : Int) - text.size, rfl, .inr ⟨by omega, by omega, HT.out M hML hn1 r2 H3.out (by omega)⟩, HB1.out⟩

set_option maxRecDepth 8000 in
set_option maxHeartbeats 2000000 in
theorem cSzNodeS (a : Option Addr) (cap : Nat) (ts : List Tk) (w : World) (hR : TkRow w a ts) (hz : TksSz maxLen ts) (hn : ts.length ≤ maxLen) :
    Calls Tryz.prog 16 #[.slice a ts.length cap, .int .i64 1048576] w fun e w' => ∃ r : Int, e = .returned (.int .i64 r) ∧ (r = -1 ∨ 0 ≤ r ∧ ts.length ≤ 1048576 ∧ TksSz 1048576 ts ∧ sumA ts ≤ 1048576) ∧ Below w.heap.size w w' := by
  have HR := hid hR
  have HZ := hid hz
  clear hR hz
  unfold maxLen at hn
  obtain ⟨n, hnn⟩ : ∃ n, ts.length = n := ⟨_, rfl⟩
  have HN := hid hnn
  rw [hnn] at hn ⊢
  clear hnn
  by_cases h1 : (1048576 : Int) - n < 0
  · go_enter Tryz.func16, Tryz.ntmps16
    go_wp2
    go_ret
    exact ⟨-1, rfl, .inl rfl, Below.refl _ _⟩
  · go_enter Tryz.func16, Tryz.ntmps16
    go_wp2
    go_loopw [1, 5] (fun v k wr => ∃ (i M : Nat), k = .int .i64 (i : Int) ∧ i ≤ n ∧ v = .int .i64 (M : Int) ∧ M + sumA (ts.take i) ≤ 1048576 ∧ Hid (TksSz 1048576 (ts.take i)) ∧ Hid (Below w.heap.size w wr)) (fun _ k _ => n - (intOf k).toNat)
    case atStart => exact ⟨0, 1048576 - n, rfl, Nat.zero_le _, by go_num, by rw [List.take_zero]; show 1048576 - n + 0 ≤ 1048576; omega, fun s hs => by simp at hs, Below.refl _ _⟩
    case round =>
      obtain ⟨i, M, rfl, hi, rfl, hM, HA, HB⟩ := hrel
      by_cases hlt : i < n
      · have his : i < ts.length := by rw [HN.out]; exact hlt
        obtain ⟨b, o, aa, ca, rfl, hb, c0, c1, c2, c3, cr⟩ := HR.out.below HB.out i his
        have hin : (i : Int) < (n : Int) := by omega
        have HT := hid (take_snocN his)
        have CR := hid cr
        have C := hid (cSzNodeL ts[i] aa ca M wr cr (HZ.out _ (List.getElem_mem his)) (by omega))
        have HSM := hid (show sumA (ts.take (i + 1)) = sumA (ts.take i) + ts[i].attrs.length by rw [take_snocN his, sumA_snoc])
        generalize sumA (ts.take i) = sm at *
        have HE : Hid (TkSz M ts[i] → TksSz 1048576 (ts.take (i + 1))) := by
          intro h
          rw [HT.out]
          intro s hs
          rcases List.mem_append.1 hs with h' | h'
          · exact HA.out s h'
          · rw [List.mem_singleton] at h'
            subst h'
            obtain ⟨p1, p2, p3, p4⟩ := h
            exact ⟨by omega, by omega, fun x hx => by have := p3 x hx; omega, by omega⟩
        clear cr
        simp only [tkV] at C
        generalize ts[i] = t at *
        go_wp2_with fail
        refine C.out.mono ?_
        rintro e w2 ⟨r, rfl, hr, hb2⟩
        have HB2 := hid (bb HB.out hb2)
        clear hb2 C c0 c1 c2 c3
        rcases hr with rfl | ⟨h0, hr, hz⟩
        · go_wp2_with fail
          go_ret
          exact ⟨-1, rfl, .inl rfl, HB2.out⟩
        · obtain ⟨R, rfl⟩ : ∃ R : Nat, r = R := ⟨r.toNat, by omega⟩
          have HZ2 := hid (HE.out hz)
          clear hz
          go_wp2_with fail
          go_roundw
          case rel => exact ⟨i + 1, R, by go_num, by omega, rfl, by rw [HSM.out]; omega, HZ2.out, HB2.out⟩
          case measure => simp [intOf]; omega
      · have hie : i = n := by omega
        subst hie
        have h2 := HA.out
        rw [List.take_of_length_le (by rw [HN.out]; exact Nat.le_refl _)] at h2
        have H2 := hid h2
        have HM2 := hid hM
        rw [List.take_of_length_le (by rw [HN.out]; exact Nat.le_refl _)] at HM2
        clear h2 hM
        go_wp2_with fail
        go_ret
        exact ⟨M, rfl, .inr ⟨by omega, by omega, H2.out, by have := HM2.out; omega⟩, HB.out⟩

set_option maxHeartbeats 2000000 in
theorem cToNode2 (t : Tk) (a : Option Addr) (cap : Nat) (w : World) (hR : AtRow w a t.attrs) (hn : t.attrs.length ≤ 1048576) :
    Calls Tryz.prog 49 #[tkV t a cap] w fun e w' => ∃ g cu, w.heap.size ≤ g ∧ e = .returned (tkV t (some ⟨g, 0, none⟩) t.attrs.length) ∧ w'.heap[g]? = some (.cells cu 70 (0, 0)) ∧ AtCells cu 0 t.attrs ∧ Below w.heap.size w w' := by
  obtain ⟨k, name, l, text⟩ := t
  simp only at hR hn
  simp only [tkV]
  obtain ⟨b1, b2, b3⟩ := heap3 w (.cells #[.int .i64 k, .string name, .slice a l.length cap, .string text] 86) (.cells #[.int .i64 0, .string ⟨#[]⟩, .slice none 0 0, .string ⟨#[]⟩] 32) (.cells #[.int .i64 k, .string name, .slice none 0 0, .string ⟨#[]⟩] 32)
  have HB0 := hid ((((Below.refl w.heap.size w).alloc (Nat.le_refl _) (.cells #[.int .i64 k, .string name, .slice a l.length cap, .string text] 86)).alloc (by simp) (.cells #[.int .i64 0, .string ⟨#[]⟩, .slice none 0 0, .string ⟨#[]⟩] 32)).alloc (by simp; omega) (.cells #[.int .i64 k, .string name, .slice none 0 0, .string ⟨#[]⟩] 32))
  have HR := hid (hR.below HB0.out)
  have C := fun (w : World) (hR : AtRow w a l) => cToAttrS2 a cap l w hR hn
  have H1 := hid b1
  have H2 := hid b2
  have H3 := hid b3
  clear b1 b2 b3 hR
  obtain ⟨n, hn⟩ : ∃ n, l.length = n := ⟨_, rfl⟩
  rw [hn] at C HR HB0 H1 H2 H3 ⊢
  clear hn
  go_enter Tryz.func49, Tryz.ntmps49
  go_wp2_with fail
  refine (C _ HR.out).mono ?_
  rintro e w1 ⟨g, cu, hg, rfl, hG1, hR1, hb1⟩
  have HR1 := hid hR1
  have HG1 := hid hG1
  have HB1 := hid (bb HB0.out hb1)
  obtain ⟨⟨x0, x1, x2, x3⟩, _⟩ := box4 (blk_below H1.out hb1)
  obtain ⟨⟨y0, y1, y2, y3⟩, yf0, yf1, yf2, yf3⟩ := box4 (blk_below H2.out hb1)
  obtain ⟨⟨z0, z1, z2, z3⟩, zf0, zf1, zf2, zf3⟩ := box4 (blk_below H3.out hb1)
  have hgw : w.heap.size + 3 ≤ g := by simpa using hg
  clear hR1 hG1 hb1 HB0 HR H1 H2 H3 C hg
  go_wp2_with fail
  refine bodyPost_ret (v := .agg #[.int .i64 k, .string name, .slice (some ⟨g, 0, none⟩) n n, .string text]) (by simp [results, Tryz.results49, go_sem, x0, x1, x2, x3, y0, y1, y2, y3, z0, z1, z2, z3]) rfl ⟨g, cu, by omega, rfl, ?_, HR1.out, ?_⟩
  · iterate 6 refine (Below.heap_setCell _ _ _ _ (by simp; omega)).trans ?_
    exact HG1.out
  · iterate 6 refine Below.setCell ?_ (by simp; try omega) _
    exact HB1.out

theorem cToNode (t : Tk) (a : Option Addr) (cap : Nat) (w : World) (hR : AtRow w a t.attrs) (hn : t.attrs.length ≤ 1048576) :
    Calls Tryz.prog 49 #[tkV t a cap] w fun e w' => ∃ g, w.heap.size ≤ g ∧ e = .returned (tkV t (some ⟨g, 0, none⟩) t.attrs.length) ∧ AtRow w' (some ⟨g, 0, none⟩) t.attrs ∧ Below w.heap.size w w' :=
  (cToNode2 t a cap w hR hn).mono fun _ _ ⟨g, cu, h1, h2, h3, h4, h5⟩ => ⟨g, h1, h2, h4.atRow h3, h5⟩

set_option maxHeartbeats 1000000 in
theorem cEqNode (t : Tk) (a c : Option Addr) (cap cap2 : Nat) (w : World) (hR : AtRow w a t.attrs) (hT : AtRow w c t.attrs) (hz : TkSz 1048576 t) :
    Calls Tryz.prog 50 #[tkV t a cap, tkV t c cap2] w fun e w' => e = .returned (.bool true) ∧ Below w.heap.size w w' := by
  obtain ⟨k, name, l, text⟩ := t
  obtain ⟨h1, h2, h3, h4⟩ := hz
  simp only at hR hT h1 h2 h3 h4
  simp only [tkV]
  have HB0 := hid (((Below.refl w.heap.size w).alloc (Nat.le_refl _) (.cells #[.int .i64 k, .string name, .slice a l.length cap, .string text] 32)).alloc (by simp) (.cells #[.int .i64 k, .string name, .slice c l.length cap2, .string text] 32))
  have HR := hid (hR.below HB0.out)
  have HT := hid (hT.below HB0.out)
  have C := fun (w : World) (hR : AtRow w a l) (hT : AtRow w c l) => cEqAttrS a c cap cap2 l w hR hT h3 h2
  clear hR hT h3 h2
  obtain ⟨n, hn⟩ : ∃ n, l.length = n := ⟨_, rfl⟩
  rw [hn] at C HR HT HB0 ⊢
  clear hn
  go_enter Tryz.func50, Tryz.ntmps50
  go_wp2_with fail
  refine (C _ HR.out HT.out).mono ?_
  rintro e w1 ⟨rfl, hb1⟩
  obtain ⟨hc, hf⟩ := bcell hb1
  have HB1 := hid (bb HB0.out hb1)
  have hz0 : w.heap.size + 1 < w1.heap.size := by have := hb1.size; simp at this; omega
  go_wp2_with fail
  go_ret
  exact ⟨rfl, HB1.out⟩

set_option maxRecDepth 8000 in
set_option maxHeartbeats 2000000 in
theorem cEqNodeS (a c : Option Addr) (cap cap2 : Nat) (ts : List Tk) (w : World) (hR : TkRow w a ts) (hT : TkRow w c ts) (hz : TksSz 1048576 ts) (hn : ts.length ≤ 1048576) :
    Calls Tryz.prog 19 #[.slice a ts.length cap, .slice c ts.length cap2] w fun e w' => e = .returned (.bool true) ∧ Below w.heap.size w w' := by
  have HR := hid hR
  have HT := hid hT
  have HZ := hid hz
  clear hR hT hz
  obtain ⟨n, hnn⟩ : ∃ n, ts.length = n := ⟨_, rfl⟩
  have HN := hid hnn
  rw [hnn] at hn ⊢
  clear hnn
  go_enter Tryz.func19, Tryz.ntmps19
  go_wp2
  go_loopw [5] (fun k wr => ∃ i : Nat, k = .int .i64 (i : Int) ∧ i ≤ n ∧ Hid (Below w.heap.size w wr)) (fun k _ => n - (intOf k).toNat)
  case atStart => exact ⟨0, rfl, Nat.zero_le _, Below.refl _ _⟩
  case round =>
    obtain ⟨i, rfl, hi, HB⟩ := hrel
    by_cases hlt : i < n
    · have his : i < ts.length := by rw [HN.out]; exact hlt
      have hin : (i : Int) < (n : Int) := by omega
      obtain ⟨b, o, aa, ca, rfl, hb, c0, c1, c2, c3, cr⟩ := HR.out.below HB.out i his
      obtain ⟨b2, o2, aa2, ca2, rfl, hb', k0, k1, k2, k3, kr⟩ := HT.out.below HB.out i his
      have C := fun (w : World) (h : AtRow w aa ts[i].attrs) (h2 : AtRow w aa2 ts[i].attrs) => cEqNode ts[i] aa aa2 ca ca2 w h h2 (HZ.out _ (List.getElem_mem his))
      have CR := hid cr
      have KR := hid kr
      have CC := fun p : BW wr => C p.w (CR.out.below p.h) (KR.out.below p.h)
      obtain ⟨d0, d1, d2, d3⟩ := quad_bw hb c0 c1 c2 c3
      obtain ⟨j0, j1, j2, j3⟩ := quad_bw hb' k0 k1 k2 k3
      have HNB := hid (bw_any wr)
      clear c0 c1 c2 c3 k0 k1 k2 k3 cr kr C
      go_wp2_with fail
      haveI := HNB.out
      refine wp_region_below (by kernel_rfl) (by kernel_rfl) (Below.refl wr.heap.size wr) ?_
      repeat (go_big_quiet_step ((go_at_call 50; exact calls_bw _ (CC _))))
      refine wpQuiet_nil ?_
      intro w2 hw'
      obtain ⟨⟨wx, hb2⟩, hw''⟩ := hw'
      subst hw''
      have HB2 := hid (bb HB.out hb2)
      clear this HNB CC d0 d1 d2 d3 j0 j1 j2 j3 hb2
      go_wp2_with fail
      go_roundw
      case rel => exact ⟨i + 1, by go_num, by omega, HB2.out⟩
      case measure => simp [intOf]; omega
    · have hie : i = n := by omega
      subst hie
      go_wp2_with fail
      go_ret
      exact ⟨rfl, HB.out⟩

theorem infoTk : (Tryz.prog.info? 32).map (fun i => (i.zero, i.size, i.bytes)) = some (some (.agg #[.int .i64 0, .string ⟨#[]⟩, .slice none 0 0, .string ⟨#[]⟩]), 4, 64) := by kernel_rfl

theorem makeTk (w : World) (n : Nat) (hn : n ≤ 1048576) : ∃ v w', (Instr.makeSlice 24 (.int .i64 (n : Int)) (.int .i64 (n : Int))).run Tryz.prog w = .ok v w' ∧ v = .slice (some ⟨w.heap.size, 0, none⟩) n n ∧ (∃ cur : Array Value, w'.heap[w.heap.size]? = some (.cells cur 32 (0, 0)) ∧ cur.size = n * 4) ∧ w.grownBy w' none := by
  obtain ⟨i0, hi, hz0, hz1, hz2⟩ := info_parts infoTk
  obtain ⟨w', hrun, r1, r2⟩ := run_make_full (P := Tryz.prog) w w.heap.size 24 32 i0 _ 4 Tryz.underlying24 hi hz0 hz1 .i64 .i64 n (by rw [hz2]; omega) (by unfold maxLen; omega) (Nat.le_refl _)
  refine ⟨_, w', hrun, rfl, ?_, r2⟩
  rcases r1.2 with ⟨h, _⟩ | ⟨g, cap', cur, h, hgb, hh, _, _, hsz, _⟩
  · cases h
  · cases h
    exact ⟨cur, hh, by omega⟩

/-- The first i of these lie in the cells, each list in a block of its own behind g, later ones later. -/
structure Laid (ts : List Tk) (g i : Nat) (G : Nat → Nat) (cur : Array Value) (wr : World) : Prop where
  cells : ∀ j (h : j < ts.length), j < i → cur[j * 4]? = some (.int .i64 ts[j].kind) ∧ cur[j * 4 + 1]? = some (.string ts[j].name) ∧ cur[j * 4 + 2]? = some (.slice (some ⟨G j, 0, none⟩) ts[j].attrs.length ts[j].attrs.length) ∧ cur[j * 4 + 3]? = some (.string ts[j].text)
  row : ∀ j (h : j < ts.length), j < i → g < G j ∧ ∃ cu, wr.heap[G j]? = some (.cells cu 70 (0, 0)) ∧ AtCells cu 0 ts[j].attrs
  later : ∀ j k, j < k → k < i → G j < G k

theorem Laid.start (ts : List Tk) (g : Nat) (cur : Array Value) (wr : World) : Laid ts g 0 (fun _ => 0) cur wr := ⟨fun j _ h => by omega, fun j _ h => by omega, fun j k _ h => by omega⟩

theorem Laid.below {ts : List Tk} {g i : Nat} {G : Nat → Nat} {cur : Array Value} {wr w' : World} (h : Laid ts g i G cur wr) (hb : Below wr.heap.size wr w') : Laid ts g i G cur w' :=
  ⟨h.cells, fun j hj hi => ⟨(h.row j hj hi).1, by
    obtain ⟨_, cu, hh, hc⟩ := h.row j hj hi
    exact ⟨cu, (hb.block _ (lt_of_heap hh)).trans hh, hc⟩⟩, h.later⟩

theorem Laid.set {ts : List Tk} {g i : Nat} {G : Nat → Nat} {cur : Array Value} {wr : World} (h : Laid ts g i G cur wr) (o : Nat) (v : Value) : Laid ts g i G cur (wr.setCell ⟨g, o, none⟩ v) :=
  ⟨h.cells, fun j hj hi => ⟨(h.row j hj hi).1, by
    obtain ⟨hg, cu, hh, hc⟩ := h.row j hj hi
    exact ⟨cu, (Below.heap_setCell wr _ v _ (by simp; omega)).trans hh, hc⟩⟩, h.later⟩

abbrev put4 (cur : Array Value) (i : Nat) (x y z u : Value) : Array Value := (((cur.setIfInBounds (i * 4) x).setIfInBounds (i * 4 + 1) y).setIfInBounds (i * 4 + 2) z).setIfInBounds (i * 4 + 3) u

theorem put4_same {cur : Array Value} {i n : Nat} {x y z u : Value} (hs : cur.size = n * 4) (hi : i < n) : (put4 cur i x y z u)[i * 4]? = some x ∧ (put4 cur i x y z u)[i * 4 + 1]? = some y ∧ (put4 cur i x y z u)[i * 4 + 2]? = some z ∧ (put4 cur i x y z u)[i * 4 + 3]? = some u := by
  refine ⟨?_, ?_, ?_, ?_⟩ <;> simp [put4, Array.getElem?_setIfInBounds, hs] <;> omega

theorem put4_other {cur : Array Value} {i j : Nat} {x y z u : Value} (h : ¬ i = j) (r : Nat) (hr : r < 4) : (put4 cur i x y z u)[j * 4 + r]? = cur[j * 4 + r]? := by
  simp only [put4, Array.getElem?_setIfInBounds]
  rw [if_neg (by omega), if_neg (by omega), if_neg (by omega), if_neg (by omega)]

theorem Laid.next {ts : List Tk} {g i n : Nat} {G : Nat → Nat} {cur : Array Value} {wr : World} (h : Laid ts g i G cur wr) (hi : i < ts.length) (hn : i < n) (hs : cur.size = n * 4) {gi : Nat} {cu : Array Value} (h1 : g < gi) (hl : ∀ j, j < i → G j < gi) (h2 : wr.heap[gi]? = some (.cells cu 70 (0, 0))) (hr : AtCells cu 0 ts[i].attrs) :
    Laid ts g (i + 1) (fun j => if j = i then gi else G j) (put4 cur i (.int .i64 ts[i].kind) (.string ts[i].name) (.slice (some ⟨gi, 0, none⟩) ts[i].attrs.length ts[i].attrs.length) (.string ts[i].text)) wr := by
  refine ⟨fun j hj hlt => ?_, fun j hj hlt => ?_, fun j k hjk hk => ?_⟩
  · by_cases e : j = i
    · subst e
      rw [if_pos rfl]
      exact put4_same hs hn
    · rw [if_neg e]
      have := h.cells j hj (by omega)
      have ne : ¬ i = j := fun x => e x.symm
      exact ⟨(put4_other ne 0 (by omega)).trans this.1, (put4_other ne 1 (by omega)).trans this.2.1, (put4_other ne 2 (by omega)).trans this.2.2.1, (put4_other ne 3 (by omega)).trans this.2.2.2⟩
  · by_cases e : j = i
    · subst e
      simp only [if_true]
      exact ⟨h1, cu, h2, hr⟩
    · simp only [if_neg e]
      exact h.row j hj (by omega)
  · by_cases e : k = i
    · subst e
      simp only [if_true, if_neg (show ¬ j = k by omega)]
      exact hl j hjk
    · simp only [if_neg e, if_neg (show ¬ j = i by omega)]
      exact h.later j k hjk (by omega)

theorem Laid.tkRow {ts : List Tk} {g : Nat} {G : Nat → Nat} {cur : Array Value} {wr : World} (h : Laid ts g ts.length G cur wr) (hh : wr.heap[g]? = some (.cells cur 32 (0, 0))) : TkRow wr (some ⟨g, 0, none⟩) ts := by
  intro j hj
  obtain ⟨c0, c1, c2, c3⟩ := h.cells j hj hj
  refine ⟨g, 0, some ⟨G j, 0, none⟩, ts[j].attrs.length, rfl, lt_of_heap hh, ?_, ?_, ?_, ?_, by obtain ⟨_, cu, h1, h2⟩ := h.row j hj hj; exact h2.atRow h1⟩
  · rw [Lib.cell_of_heap hh, Nat.zero_add]; exact c0
  · rw [Lib.cell_of_heap hh, Nat.zero_add]; exact c1
  · rw [Lib.cell_of_heap hh, Nat.zero_add]; exact c2
  · rw [Lib.cell_of_heap hh, Nat.zero_add]; exact c3

set_option maxRecDepth 8000 in
set_option maxHeartbeats 4000000 in
theorem cToNodeSL (a : Option Addr) (cap : Nat) (ts : List Tk) (w : World) (hR : TkRow w a ts) (hz : TksSz 1048576 ts) (hn : ts.length ≤ 1048576) :
    Calls Tryz.prog 17 #[.slice a ts.length cap] w fun e w' => ∃ G cur, e = .returned (.slice (some ⟨w.heap.size, 0, none⟩) ts.length ts.length) ∧ w'.heap[w.heap.size]? = some (.cells cur 32 (0, 0)) ∧ cur.size = ts.length * 4 ∧ Laid ts w.heap.size ts.length G cur w' ∧ Below w.heap.size w w' := by
  have HR := hid hR
  have HZ := hid hz
  clear hR hz
  obtain ⟨n, hnn⟩ : ∃ n, ts.length = n := ⟨_, rfl⟩
  have HN := hid hnn
  rw [hnn] at hn ⊢
  clear hnn
  go_enter Tryz.func17, Tryz.ntmps17
  go_wp2_with fail
  refine upon_ex (makeTk w n hn) ?_
  rintro _ w1 ⟨rfl, ⟨cur, hcur, hcs⟩, hg⟩
  have HB := hid ((Below.refl w.heap.size w).grown hg (Nat.le_refl _) (by simp))
  have HC := hid hcur
  clear hcur hg
  go_wp2_with fail
  go_loopw [4] (fun k wr => ∃ (i : Nat) (G : Nat → Nat) (cur : Array Value), k = .int .i64 (i : Int) ∧ i ≤ n ∧ Hid (wr.heap[w.heap.size]? = some (.cells cur 32 (0, 0))) ∧ cur.size = n * 4 ∧ Hid (Laid ts w.heap.size i G cur wr) ∧ Hid (Below w.heap.size w wr)) (fun k _ => n - (intOf k).toNat)
  case atStart => exact ⟨0, fun _ => 0, cur, rfl, Nat.zero_le _, HC.out, hcs, Laid.start _ _ _ _, HB.out⟩
  case round =>
    clear HC HB hcs cur
    obtain ⟨i, G, cur, rfl, hi, HH, hcs, HA, HB⟩ := hrel
    have hsz : w.heap.size < wr.heap.size := lt_of_heap HH.out
    by_cases hlt : i < n
    · have his : i < ts.length := by rw [HN.out]; exact hlt
      obtain ⟨b, o, aa, ca, rfl, hb, c0, c1, c2, c3, cr⟩ := HR.out.below HB.out i his
      have hin : (i : Int) < (n : Int) := by omega
      have C := hid (cToNode2 ts[i] aa ca wr cr (HZ.out _ (List.getElem_mem his)).2.1)
      have HL : Hid (∀ (gi : Nat) (w2 : World) (cu : Array Value), Laid ts w.heap.size i G cur w2 → w.heap.size < gi → (∀ j, j < i → G j < gi) → w2.heap[gi]? = some (.cells cu 70 (0, 0)) → AtCells cu 0 ts[i].attrs → Laid ts w.heap.size (i + 1) (fun j => if j = i then gi else G j) (put4 cur i (.int .i64 ts[i].kind) (.string ts[i].name) (.slice (some ⟨gi, 0, none⟩) ts[i].attrs.length ts[i].attrs.length) (.string ts[i].text)) w2) :=
        fun gi w2 cu h h1 h2 h3 h4 => h.next his hlt hcs h1 h2 h3 h4
      clear cr
      simp only [tkV] at C
      generalize ts[i] = t at *
      go_wp2_with fail
      refine C.out.mono ?_
      rintro e w2 ⟨gi, cu, hgi, rfl, hh2, hr2, hb2⟩
      have HB2 := hid (HB.out.trans (hb2.mono HB.out.size))
      have HH2 := hid ((hb2.block _ (lt_of_heap HH.out)).trans HH.out)
      have HA2 := hid (HA.out.below hb2)
      have HR2 := hid (And.intro hh2 hr2)
      have hx : ∀ r, r < 4 → ∃ v, w2.cell? ⟨w.heap.size, i * 4 + r, none⟩ = some v := by
        intro r hr
        rw [Lib.cell_of_heap HH2.out]
        exact ⟨cur[i * 4 + r]'(by omega), Array.getElem?_eq_getElem (by omega)⟩
      obtain ⟨o0, k0⟩ := hx 0 (by omega)
      obtain ⟨o1, k1⟩ := hx 1 (by omega)
      obtain ⟨o2, k2⟩ := hx 2 (by omega)
      obtain ⟨o3, k3⟩ := hx 3 (by omega)
      rw [Nat.add_zero] at k0
      have f0 : w2.frozen? ⟨w.heap.size, i * 4, none⟩ = false := Lib.frozen_of_heap HH2.out _
      have f1 : w2.frozen? ⟨w.heap.size, i * 4 + 1, none⟩ = false := Lib.frozen_of_heap HH2.out _
      have f2 : w2.frozen? ⟨w.heap.size, i * 4 + 2, none⟩ = false := Lib.frozen_of_heap HH2.out _
      have f3 : w2.frozen? ⟨w.heap.size, i * 4 + 3, none⟩ = false := Lib.frozen_of_heap HH2.out _
      have HL2 := hid (HL.out gi w2 cu HA2.out (by omega) (fun j hji => by obtain ⟨_, _, hh, _⟩ := HA.out.row j (by omega) hji; have := lt_of_heap hh; omega) HR2.out.1 HR2.out.2)
      have HL3 := hid ((((HL2.out.set (i * 4) (.int .i64 t.kind)).set (i * 4 + 1) (.string t.name)).set (i * 4 + 2) (.slice (some ⟨gi, 0, none⟩) t.attrs.length t.attrs.length)).set (i * 4 + 3) (.string t.text))
      have HS2 := hid (show ((((w2.setCell ⟨w.heap.size, i * 4, none⟩ (.int .i64 t.kind)).setCell ⟨w.heap.size, i * 4 + 1, none⟩ (.string t.name)).setCell ⟨w.heap.size, i * 4 + 2, none⟩ (.slice (some ⟨gi, 0, none⟩) t.attrs.length t.attrs.length)).setCell ⟨w.heap.size, i * 4 + 3, none⟩ (.string t.text)).heap[w.heap.size]? = some (.cells (put4 cur i (.int .i64 t.kind) (.string t.name) (.slice (some ⟨gi, 0, none⟩) t.attrs.length t.attrs.length) (.string t.text)) 32 (0, 0)) by
        simp [World.setCell, Array.getElem?_modify, HH2.out, put4])
      have HB3 := hid ((((HB2.out.setCell (p := ⟨w.heap.size, i * 4, none⟩) (Nat.le_refl _) (.int .i64 t.kind)).setCell (p := ⟨w.heap.size, i * 4 + 1, none⟩) (Nat.le_refl _) (.string t.name)).setCell (p := ⟨w.heap.size, i * 4 + 2, none⟩) (Nat.le_refl _) (.slice (some ⟨gi, 0, none⟩) t.attrs.length t.attrs.length)).setCell (p := ⟨w.heap.size, i * 4 + 3, none⟩) (Nat.le_refl _) (.string t.text))
      have HC2 := hid (show (put4 cur i (.int .i64 t.kind) (.string t.name) (.slice (some ⟨gi, 0, none⟩) t.attrs.length t.attrs.length) (.string t.text)).size = n * 4 by simp [put4, hcs])
      clear hb2 C c0 c1 c2 c3 hr2 hh2 HL HL2
      go_wp2_with fail
      go_roundw
      case rel => exact ⟨i + 1, _, _, by go_num, by omega, HS2.out, HC2.out, HL3.out, HB3.out⟩
      case measure => simp [intOf]; omega
    · have hie : i = n := by omega
      subst hie
      go_wp2_with fail
      go_ret
      exact ⟨G, cur, rfl, HH.out, hcs, HA.out, HB.out⟩

end Go.Proofs.YtnbpcgeojmikoaaGreatDoor.Nd

namespace Go.Proofs.YtnbpcgeojmikoaaGreatDoor
open Go.RowKit
set_option linter.unusedVariables false
set_option linter.unusedSimpArgs false

/-- Where a row of tokens and their attrs lie. -/
structure Shape where
  R : Nat
  o : Nat
  n : Nat
  len : Nat → Nat
  aa : Nat → Option Addr
  A : Nat → Nat
  O : Nat → Nat
  C : Nat → Nat

/-- From block B on; no two lists in one block. -/
structure Shape.Ok (s : Shape) (B : Nat) : Prop where
  row : B ≤ s.R
  at_ : ∀ j, j < s.n → 0 < s.len j → s.aa j = some ⟨s.A j, s.O j, none⟩ ∧ B ≤ s.A j ∧ ¬ s.A j = s.R
  apart : ∀ i j, i < s.n → j < s.n → ¬ i = j → 0 < s.len i → 0 < s.len j → ¬ s.A i = s.A j

/-- The blocks of the row and of its lists. -/
def Shape.Has (s : Shape) (b : Nat) : Prop := b = s.R ∨ ∃ j, j < s.n ∧ 0 < s.len j ∧ b = s.A j

theorem Shape.Ok.has {s : Shape} {B : Nat} (h : s.Ok B) {b : Nat} (hb : s.Has b) : B ≤ b := by
  rcases hb with rfl | ⟨j, hj, hl, rfl⟩
  · exact h.row
  · exact (h.at_ j hj hl).2.1

structure TkCells (cur : Array Value) (p : Nat) (t : Tk) (aa : Option Addr) (cap : Nat) : Prop where
  c0 : cur[p]? = some (.int .i64 t.kind)
  c1 : cur[p + 1]? = some (.string t.name)
  c2 : cur[p + 2]? = some (.slice aa t.attrs.length cap)
  c3 : cur[p + 3]? = some (.string t.text)

/-- The tokens f lie there. -/
structure Shape.Holds (s : Shape) (w : World) (f : Nat → Tk) : Prop where
  row : ∃ cur, w.heap[s.R]? = some (.cells cur 169 (0, 0)) ∧ ∀ j, j < s.n → TkCells cur (s.o + j * 4) (f j) (s.aa j) (s.C j)
  len : ∀ j, j < s.n → (f j).attrs.length = s.len j
  ats : ∀ j, j < s.n → 0 < s.len j → ∃ cu, w.heap[s.A j]? = some (.cells cu 70 (0, 0)) ∧ AtCells cu (s.O j) (f j).attrs

theorem Shape.Holds.keep {s : Shape} {w w' : World} {f : Nat → Tk} {p : Nat → Prop} (h : s.Holds w f) (k : KeepB p w w') (h1 : ¬ p s.R) (h2 : ∀ j, j < s.n → 0 < s.len j → ¬ p (s.A j)) : s.Holds w' f := by
  obtain ⟨cur, hc, hr⟩ := h.row
  refine ⟨⟨cur, (k.block _ (lt_of_heap hc) h1).trans hc, hr⟩, h.len, fun j hj hl => ?_⟩
  obtain ⟨cu, hcu, ha⟩ := h.ats j hj hl
  exact ⟨cu, (k.block _ (lt_of_heap hcu) (h2 j hj hl)).trans hcu, ha⟩
-- over type 169

theorem Shape.Holds.below {s : Shape} {w w' : World} {f : Nat → Tk} (h : s.Holds w f) (k : Below w.heap.size w w') : s.Holds w' f :=
  h.keep (KeepB.of_below (fun _ => False) k) (fun x => x) (fun _ _ _ x => x)
-- over type 169

theorem Shape.Holds.atRow {s : Shape} {w : World} {f : Nat → Tk} {B : Nat} (h : s.Holds w f) (ok : s.Ok B) (j : Nat) (hj : j < s.n) : AtRow w (s.aa j) (f j).attrs := by
  intro m hm
  have hl : 0 < s.len j := by rw [← h.len j hj]; omega
  obtain ⟨cu, hcu, ha⟩ := h.ats j hj hl
  obtain ⟨c1, c2⟩ := ha m hm
  exact ⟨s.A j, s.O j, (ok.at_ j hj hl).1, lt_of_heap hcu, by rw [Lib.cell_of_heap hcu]; exact c1, by rw [Lib.cell_of_heap hcu]; exact c2⟩
-- over type 169

theorem Shape.Holds.tkRow {s : Shape} {w : World} {f : Nat → Tk} {B : Nat} {ts : List Tk} (h : s.Holds w f) (ok : s.Ok B) (hn : ts.length = s.n) (hf : ∀ j (hj : j < ts.length), f j = ts[j]) : TkRow w (some ⟨s.R, s.o, none⟩) ts := by
  intro j hj
  obtain ⟨cur, hc, hr⟩ := h.row
  have hjn : j < s.n := by omega
  have t := hr j hjn
  have ha := h.atRow ok j hjn
  rw [hf j hj] at t ha
  exact ⟨s.R, s.o, s.aa j, s.C j, rfl, lt_of_heap hc, by rw [Lib.cell_of_heap hc]; exact t.c0, by rw [Lib.cell_of_heap hc]; exact t.c1, by rw [Lib.cell_of_heap hc]; exact t.c2, by rw [Lib.cell_of_heap hc]; exact t.c3, ha⟩
-- over type 169

/-- Attrs that bear the marks from k on. -/
def mkAts (k n : Nat) : List At := (List.range n).map fun j => ⟨markS (k + 2 * j), markS (k + 2 * j + 1)⟩

theorem mkAts_len (k n : Nat) : (mkAts k n).length = n := by simp [mkAts]

theorem mkAts_get (k n j : Nat) (h : j < (mkAts k n).length) : (mkAts k n)[j].name = markS (k + 2 * j) ∧ (mkAts k n)[j].value = markS (k + 2 * j + 1) := by
  simp [mkAts]

/-- A token that bears the marks from k on. -/
def mkTk (k n : Nat) : Tk := ⟨k, markS (k + 1), mkAts (k + 2) n, markS (k + 2 + 2 * n)⟩

/-- The first mark of token j. -/
def Shape.K (s : Shape) (k : Nat) : Nat → Nat
  | 0 => k
  | j + 1 => Shape.K s k j + (3 + 2 * s.len j)

theorem Shape.K_le (s : Shape) (k : Nat) : ∀ j m, j ≤ m → s.K k j ≤ s.K k m := by
  intro j m h
  induction m with
  | zero => have : j = 0 := by omega
            subst this; exact Nat.le_refl _
  | succ m ih =>
    rcases Nat.lt_or_eq_of_le h with h' | h'
    · have := ih (by omega)
      show s.K k j ≤ s.K k m + (3 + 2 * s.len m)
      omega
    · subst h'; exact Nat.le_refl _

theorem marksA_cells {cu : Array Value} {o n k : Nat} (h : MarksA cu o n k) : AtCells cu o (mkAts k n) := by
  intro m hm
  obtain ⟨h1, h2⟩ := mkAts_get k n m hm
  rw [mkAts_len] at hm
  rw [h1, h2]
  exact h m hm

end Go.Proofs.YtnbpcgeojmikoaaGreatDoor

namespace Go.Proofs.YtnbpcgeojmikoaaGreatDoor
open Go.RowKit
set_option linter.unusedVariables false
set_option linter.unusedSimpArgs false

theorem add_plainW (b o j : Nat) : (⟨b, o, none⟩ : Addr).add j = ⟨b, o + j, none⟩ := by unfold Addr.add; split <;> simp_all

/-- append of nothing. -/
theorem wpL_none {P : Program} (w : World) {ops : Array Oper} {rest : List Oper} {o : Oper} {a : Act} {Q : Exit → Act → World → Prop} (hgd : o.guard = none) (s x : Operand) (t e : TypeId) (i : TypeInfo)
    (ho : o.op = .call { callee := .builtin .append, args := #[s, x], argTypes := #[t, t] }) (ht : P.underlying t = some (.slice e)) (hi : P.info? e = some i)
    (b : Option Addr) (n c : Nat) (hs : a.eval s = .slice b n c) (hle : n ≤ c) (ax : Option Addr) (cx : Nat) (hx : a.eval x = .slice ax 0 cx)
    (h : wpList P ops Q rest (a.put o.dst (.slice b n c)) w) : wpList P ops Q (o :: rest) a w := by
  refine wpList_plain hgd fun K hK => ?_
  have hsrc : Src P i.size t (.slice ax 0 cx) 0 [] w := by
    cases ax with
    | none => exact Src.ofNil w ht cx
    | some ad => exact Src.ofSlice w ht ad 0 cx [] (by simp) (fun j u h => by simp at h) (fun u h => by cases h)
  have hr := run_append_nothing (P := P) w t t o.type e i ht hi b n c hle _ hsrc
  unfold Oper.wp execOp
  simp only [ho, resolve, invoke, builtin, Sem.run_bind, Sem.run_pure, Result.andThen_ok, List.map_toArray, List.map_cons, List.map_nil, hs, hx, hr]
  exact hK _ _ h

/-- Attrs as cells. -/
def atC (l : List At) : List Value := l.flatMap fun x => [.string x.name, .string x.value]

theorem atC_len (l : List At) : (atC l).length = l.length * 2 := by
  induction l with
  | nil => rfl
  | cons x l ih => show (atC l).length + 2 = _; rw [ih, List.length_cons]; omega

theorem atC_get (l : List At) (j : Nat) (h : j < l.length) : (atC l)[j * 2]? = some (.string l[j].name) ∧ (atC l)[j * 2 + 1]? = some (.string l[j].value) := by
  induction l generalizing j with
  | nil => simp at h
  | cons x l ih =>
    have e : atC (x :: l) = .string x.name :: .string x.value :: atC l := rfl
    rw [e]
    match j with
    | 0 => exact ⟨rfl, rfl⟩
    | j + 1 =>
      have := ih j (by simpa using h)
      rw [show (j + 1) * 2 = j * 2 + 1 + 1 by omega]
      exact this

theorem atC_one (l : List At) : ∀ u ∈ atC l, u.oneCell' = true := by
  intro u hu
  unfold atC at hu
  obtain ⟨x, _, hx⟩ := List.mem_flatMap.1 hu
  simp at hx
  rcases hx with rfl | rfl <;> rfl

theorem atC_row {w : World} {b o : Nat} {l : List At} (h : AtRow w (some ⟨b, o, none⟩) l) : ∀ j u, (atC l)[j]? = some u → w.cell? ((⟨b, o, none⟩ : Addr).add j) = some u := by
  intro j u hj
  have hlt : j < l.length * 2 := by
    rw [← atC_len]
    exact (List.getElem?_eq_some_iff.1 hj).1
  rw [add_plainW]
  obtain ⟨b', o', e, _, c1, c2⟩ := h (j / 2) (by omega)
  cases e
  obtain ⟨g1, g2⟩ := atC_get l (j / 2) (by omega)
  rcases Nat.mod_two_eq_zero_or_one j with h2 | h2
  · have e2 : j / 2 * 2 = j := by omega
    rw [e2] at g1 c1
    rw [g1] at hj
    cases hj
    exact c1
  · have e2 : j / 2 * 2 + 1 = j := by omega
    rw [Nat.add_assoc, e2] at c2
    rw [e2] at g2
    rw [g2] at hj
    cases hj
    exact c2

theorem infoAtW : (Tryz.prog.info? 70).map (fun i => (i.zero, i.size, i.bytes)) = some (some (.agg #[.string ⟨#[]⟩, .string ⟨#[]⟩]), 2, 32) := by kernel_rfl

/-- A list of attrs in a block of its own, from B on. -/
def OwnAts (w : World) (B : Nat) (a : Option Addr) (l : List At) : Prop := 0 < l.length → ∃ g o cu, a = some ⟨g, o, none⟩ ∧ B ≤ g ∧ w.heap[g]? = some (.cells cu 70 (0, 0)) ∧ AtCells cu o l

theorem OwnAts.atRow {w : World} {B : Nat} {a : Option Addr} {l : List At} (h : OwnAts w B a l) : AtRow w a l := by
  intro j hj
  obtain ⟨g, o, cu, e, _, hh, hc⟩ := h (by omega)
  obtain ⟨c1, c2⟩ := hc j hj
  exact ⟨g, o, e, lt_of_heap hh, by rw [Lib.cell_of_heap hh]; exact c1, by rw [Lib.cell_of_heap hh]; exact c2⟩

theorem OwnAts.below {w w' : World} {B : Nat} {a : Option Addr} {l : List At} (h : OwnAts w B a l) (hb : Below w.heap.size w w') : OwnAts w' B a l := by
  intro hl
  obtain ⟨g, o, cu, e, hB, hh, hc⟩ := h hl
  exact ⟨g, o, cu, e, hB, (hb.block g (lt_of_heap hh)).trans hh, hc⟩

set_option maxHeartbeats 1000000 in
theorem cCopyS (a : Option Addr) (cap : Nat) (l : List At) (w : World) (hR : AtRow w a l) (hn : l.length ≤ 1048576) :
    Calls Tryz.prog 71 #[.slice a l.length cap] w fun e w' => ∃ a' c', e = .returned (.slice a' l.length c') ∧ OwnAts w' w.heap.size a' l ∧ Below w.heap.size w w' := by
  obtain ⟨i0, hi, hz0, hz1, hz2⟩ := info_parts infoAtW
  have HB0 := hid ((Below.refl w.heap.size w).alloc (Nat.le_refl _) (.cells #[] 70))
  by_cases h0 : l.length = 0
  · have : l = [] := List.eq_nil_of_length_eq_zero h0
    subst this
    go_enter Tryz.func71, Tryz.ntmps71
    go_wp2_with (at_builtin; refine wpL_none _ rfl _ _ 30 70 i0 rfl Tryz.underlying30 hi _ _ _ rfl (Nat.le_refl _) a cap rfl ?_)
    go_ret
    exact ⟨_, _, rfl, fun h => absurd h (by simp), HB0.out⟩
  · obtain ⟨b, o, rfl, hb, hcc⟩ := hR 0 (by omega)
    clear hcc
    have HR := hid (hR.below HB0.out)
    have HO : Hid ((w.alloc (.cells #[] 70)).ownsRow w.heap.size 70 2 (.slice (some ⟨w.heap.size, 0, none⟩) 0 0) 0 []) :=
      ⟨rfl, .inr ⟨w.heap.size, 0, #[], rfl, Nat.le_refl _, heap_alloc_new _ _, Nat.le_refl _, Nat.zero_le _, rfl, rfl⟩⟩
    have HN := hid h0
    clear hR h0
    go_enter Tryz.func71, Tryz.ntmps71
    go_wp2_with (at_builtin; refine wpList_append_own_at _ rfl _ _ 30 rfl w.heap.size 70 i0 _ 2 32 Tryz.underlying30 hi hz0 hz1 hz2 rfl (by decide) _ 0 [] rfl HO.out ⟨b, o, none⟩ l.length cap (atC l) rfl (atC_len l) (atC_row HR.out) (atC_one l) ?c3 ?c4 ?c5 ?_)
    case c3 => unfold maxLen; omega
    case c4 => omega
    case c5 => simp
    intro v' w2 hown hgrow _ _
    have HB2 := hid (HB0.out.grown hgrow (by simp) (fun g hg => (HO.out.lt g hg).1))
    rcases hown.2 with ⟨_, h'⟩ | ⟨g, cp, cur, rfl, hg, hh, hn', hc, hs, ht⟩
    · exact absurd h' HN.out
    · have HA := hid (show OwnAts w2 w.heap.size (some ⟨g, 0, none⟩) l from fun _ => ⟨g, 0, cur, rfl, hg, hh, fun j hj => by
        obtain ⟨g1, g2⟩ := atC_get l j hj
        rw [← ht, List.getElem?_take] at g1 g2
        refine ⟨?_, ?_⟩
        · rw [Nat.zero_add, ← Array.getElem?_toList]
          split at g1
          · exact g1
          · cases g1
        · rw [Nat.zero_add, ← Array.getElem?_toList]
          split at g2
          · exact g2
          · cases g2⟩)
      clear hown hgrow hh hc hs ht hg
      go_wp2
      go_ret
      exact ⟨_, _, rfl, HA.out, HB2.out⟩

end Go.Proofs.YtnbpcgeojmikoaaGreatDoor

namespace Go.Proofs.YtnbpcgeojmikoaaGreatDoor.Nd
open Go.RowKit
set_option linter.unusedVariables false
set_option linter.unusedSimpArgs false

theorem infoR : (Tryz.prog.info? 32).map (fun i => (i.zero, i.size, i.bytes)) = some (some (.agg #[.int .i64 0, .string ⟨#[]⟩, .slice none 0 0, .string ⟨#[]⟩]), 4, 64) := by kernel_rfl

/-- One of the row, and where its attrs lie. -/
structure E where
  t : Tk
  a : Option Addr
  cap : Nat

def c1 (e : E) : List Value := [.int .i64 e.t.kind, .string e.t.name, .slice e.a e.t.attrs.length e.cap, .string e.t.text]

def cs (es : List E) : List Value := es.flatMap c1

theorem cs_app (es fs : List E) : cs (es ++ fs) = cs es ++ cs fs := by unfold cs; rw [List.flatMap_append]

theorem cs_one (e : E) : cs [e] = c1 e := by simp [cs]

theorem cs_len (es : List E) : (cs es).length = es.length * 4 := by
  induction es with
  | nil => rfl
  | cons x es ih => show (cs es).length + 4 = _; rw [ih, List.length_cons]; omega

theorem cs_cell (es : List E) : ∀ u ∈ cs es, u.oneCell' = true := by
  intro u hu
  unfold cs at hu
  obtain ⟨e, _, he⟩ := List.mem_flatMap.1 hu
  simp [c1] at he
  rcases he with rfl | rfl | rfl | rfl <;> rfl

theorem cs_get (es : List E) (j : Nat) (h : j < es.length) : (cs es)[j * 4]? = some (.int .i64 es[j].t.kind) ∧ (cs es)[j * 4 + 1]? = some (.string es[j].t.name)
    ∧ (cs es)[j * 4 + 2]? = some (.slice es[j].a es[j].t.attrs.length es[j].cap) ∧ (cs es)[j * 4 + 3]? = some (.string es[j].t.text) := by
  induction es generalizing j with
  | nil => simp at h
  | cons x es ih =>
    have e : cs (x :: es) = .int .i64 x.t.kind :: .string x.t.name :: .slice x.a x.t.attrs.length x.cap :: .string x.t.text :: cs es := rfl
    rw [e]
    match j with
    | 0 => exact ⟨rfl, rfl, rfl, rfl⟩
    | j + 1 =>
      have := ih j (by simpa using h)
      rw [show (j + 1) * 4 = j * 4 + 1 + 1 + 1 + 1 by omega]
      exact this

/-- The lists of these two lie in two blocks. -/
def Apart (e f : E) : Prop := 0 < e.t.attrs.length → 0 < f.t.attrs.length → ∀ g o g' o', e.a = some ⟨g, o, none⟩ → f.a = some ⟨g', o', none⟩ → ¬ g = g'

/-- The row so far: from B on. -/
structure Row (w : World) (B : Nat) (v : Value) (es : List E) : Prop where
  own : w.ownsRow B 32 4 v es.length (cs es)
  ats : ∀ e ∈ es, OwnAts w B e.a e.t.attrs ∧ ∀ g o, 0 < e.t.attrs.length → e.a = some ⟨g, o, none⟩ → ¬ v.ownBlock = some g
  apart : es.Pairwise Apart

theorem Row.below {w w' : World} {B : Nat} {v : Value} {es : List E} (h : Row w B v es) (hb : Below w.heap.size w w') : Row w' B v es :=
  ⟨ownsRow_below h.own hb, fun e he => ⟨(h.ats e he).1.below hb, (h.ats e he).2⟩, h.apart⟩

theorem Row.mono {w : World} {B B' : Nat} {v : Value} {es : List E} (h : Row w B' v es) (hB : B ≤ B') : Row w B v es := by
  refine ⟨⟨h.own.1, ?_⟩, fun e he => ⟨fun hl => ?_, (h.ats e he).2⟩, h.apart⟩
  · rcases h.own.2 with h' | ⟨g, cap, cur, h1, h2, h3⟩
    · exact .inl h'
    · exact .inr ⟨g, cap, cur, h1, Nat.le_trans hB h2, h3⟩
  · obtain ⟨g, o, cu, e1, e2, e3⟩ := (h.ats e he).1 hl
    exact ⟨g, o, cu, e1, Nat.le_trans hB e2, e3⟩

theorem Row.start (w : World) (B g : Nat) (hB : B ≤ g) (hh : w.heap[g]? = some (.cells #[] 32 (0, 0))) : Row w B (.slice (some ⟨g, 0, none⟩) 0 0) [] :=
  ⟨⟨rfl, .inr ⟨g, 0, #[], rfl, hB, hh, Nat.le_refl _, Nat.zero_le _, rfl, rfl⟩⟩, fun e he => absurd he List.not_mem_nil, List.Pairwise.nil⟩

theorem Row.start0 (w : World) (B : Nat) : Row w B (.slice none 0 0) [] :=
  ⟨World.ownsRow_nil _ _ _ _, fun e he => absurd he List.not_mem_nil, List.Pairwise.nil⟩

/-- A row of one, made at once. -/
theorem Row.one {w : World} {B g : Nat} {e : E} (hB : B ≤ g) (hh : w.heap[g]? = some (.cells #[.int .i64 e.t.kind, .string e.t.name, .slice e.a e.t.attrs.length e.cap, .string e.t.text] 32 (0, 0))) (ha : OwnAts w B e.a e.t.attrs) (hne : ∀ g' o, 0 < e.t.attrs.length → e.a = some ⟨g', o, none⟩ → ¬ g' = g) :
    Row w B (.slice (some ⟨g, 0, none⟩) 1 1) [e] :=
  ⟨⟨rfl, .inr ⟨g, 1, _, rfl, hB, hh, Nat.le_refl _, by decide, rfl, rfl⟩⟩, fun x hx => by
    rw [List.mem_singleton] at hx
    subst hx
    exact ⟨ha, fun g' o hl e1 e2 => hne g' o hl e1 (by simp [Value.ownBlock] at e2; exact e2.symm)⟩, List.pairwise_singleton _ _⟩

theorem Row.slice {w : World} {B : Nat} {v : Value} {es : List E} (h : Row w B v es) : ∃ a c, v = .slice a es.length c := by
  rcases h.own.2 with ⟨rfl, h0⟩ | ⟨g, cap, _, rfl, _⟩
  · exact ⟨none, 0, by rw [h0]⟩
  · exact ⟨_, cap, rfl⟩

theorem Row.tkRow {w : World} {B : Nat} {v : Value} {es : List E} (h : Row w B v es) : ∃ a cap, v = .slice a es.length cap ∧ TkRow w a (es.map (·.t)) := by
  rcases h.own.2 with ⟨rfl, h0⟩ | ⟨g, cap, cur, rfl, hg, hh, hn, hc, hs, ht⟩
  · exact ⟨none, 0, by rw [h0], fun j hj => by rw [List.length_map] at hj; omega⟩
  · refine ⟨some ⟨g, 0, none⟩, cap, rfl, fun j hj => ?_⟩
    rw [List.length_map] at hj
    obtain ⟨k0, k1, k2, k3⟩ := cs_get es j hj
    have hx : ∀ k u, (cs es)[k]? = some u → w.cell? ⟨g, 0 + k, none⟩ = some u := by
      intro k u hk
      rw [Lib.cell_of_heap hh, Nat.zero_add, ← Array.getElem?_toList]
      rw [← ht, List.getElem?_take] at hk
      split at hk
      · exact hk
      · cases hk
    rw [List.getElem_map]
    exact ⟨g, 0, es[j].a, es[j].cap, rfl, lt_of_heap hh, hx _ _ k0, hx _ _ k1, hx _ _ k2, hx _ _ k3, (h.ats _ (List.getElem_mem hj)).1.atRow⟩

theorem Row.join {w w' : World} {B : Nat} {v v' : Value} {es fs : List E} (h : Row w B v es)
    (hf : ∀ e ∈ fs, OwnAts w B e.a e.t.attrs ∧ ∀ g o, 0 < e.t.attrs.length → e.a = some ⟨g, o, none⟩ → ¬ v.ownBlock = some g) (hp : fs.Pairwise Apart) (hx : ∀ e ∈ es, ∀ f ∈ fs, Apart e f)
    (ho : w'.ownsRow B 32 4 v' (es.length + fs.length) (cs es ++ cs fs)) (hgr : w.grownBy w' v.ownBlock) (hw : v'.ownBlock = v.ownBlock ∨ v'.ownBlock = some w.heap.size) : Row w' B v' (es ++ fs) := by
  have key : ∀ e : E, (OwnAts w B e.a e.t.attrs ∧ ∀ g o, 0 < e.t.attrs.length → e.a = some ⟨g, o, none⟩ → ¬ v.ownBlock = some g) → OwnAts w' B e.a e.t.attrs ∧ ∀ g o, 0 < e.t.attrs.length → e.a = some ⟨g, o, none⟩ → ¬ v'.ownBlock = some g := by
    rintro e ⟨h1, h2⟩
    refine ⟨fun hl => ?_, fun g o hl hg x => ?_⟩
    · obtain ⟨g, o, cu, e1, e2, e3, e4⟩ := h1 hl
      exact ⟨g, o, cu, e1, e2, (hgr.block g (lt_of_heap e3) (fun x => h2 g o hl e1 x.symm)).trans e3, e4⟩
    · rcases hw with hw | hw
      · exact h2 g o hl hg (hw.symm.trans x)
      · rw [hw] at x
        simp only [Option.some.injEq] at x
        obtain ⟨g2, o2, cu, e1, _, e3, _⟩ := h1 hl
        rw [hg] at e1
        cases e1
        have := lt_of_heap e3
        omega
  refine ⟨by rw [List.length_append, cs_app]; exact ho, fun e he => ?_, List.pairwise_append.2 ⟨h.apart, hp, hx⟩⟩
  rcases List.mem_append.1 he with h' | h'
  · exact key e (h.ats e h')
  · exact key e (hf e h')

/-- Of what was there and what is made later. -/
theorem Row.apart_later {w w2 : World} {B B2 : Nat} {v v2 : Value} {es fs : List E} (h : Row w B v es) (k : Row w2 B2 v2 fs) (hB : w.heap.size ≤ B2) : (∀ e ∈ es, ∀ f ∈ fs, Apart e f) ∧ ∀ f ∈ fs, ∀ g o, 0 < f.t.attrs.length → f.a = some ⟨g, o, none⟩ → ¬ v.ownBlock = some g := by
  refine ⟨fun e he f hf hl hl' g o g' o' e1 e2 x => ?_, fun f hf g o hl e1 x => ?_⟩
  · subst x
    obtain ⟨g1, o1, cu, a1, _, a3, _⟩ := (h.ats e he).1 hl
    obtain ⟨g2, o2, cu2, b1, b2, _⟩ := (k.ats f hf).1 hl'
    rw [e1] at a1
    rw [e2] at b1
    cases a1
    cases b1
    have := lt_of_heap a3
    omega
  · obtain ⟨g2, o2, cu2, b1, b2, _⟩ := (k.ats f hf).1 hl
    rw [e1] at b1
    cases b1
    have := (h.own.lt g x).2
    omega

theorem Row.cells {w : World} {B : Nat} {a : Option Addr} {n c : Nat} {es : List E} (h : Row w B (.slice a n c) es) (hne : ¬ es = []) : ∃ g, a = some ⟨g, 0, none⟩ ∧ n = es.length ∧ ∀ j u, (cs es)[j]? = some u → w.cell? ((⟨g, 0, none⟩ : Addr).add j) = some u := by
  rcases h.own.2 with ⟨_, h0⟩ | ⟨g, cap, cur, e, hg, hh, hn, hc, hs, ht⟩
  · exact absurd (List.eq_nil_of_length_eq_zero h0) hne
  · cases e
    refine ⟨g, rfl, rfl, fun j u hk => ?_⟩
    rw [add_plainW, Lib.cell_of_heap hh, Nat.zero_add, ← Array.getElem?_toList]
    rw [← ht, List.getElem?_take] at hk
    split at hk
    · exact hk
    · cases hk

/-- append of such a row. -/
theorem wpL_join (w : World) {ops : Array Oper} {rest : List Oper} {o : Oper} {a : Act} {Q : Exit → Act → World → Prop} (hgd : o.guard = none) (s x : Operand)
    (ho : o.op = .call { callee := .builtin .append, args := #[s, x], argTypes := #[24, 24] }) (base : Nat) (v : Value) (es fs : List E) (hs : a.eval s = v) (hown : Row w base v es)
    (g m c : Nat) (hx : a.eval x = .slice (some ⟨g, 0, none⟩) m c) (hm : m = fs.length) (hB : ∀ j u, (cs fs)[j]? = some u → w.cell? ((⟨g, 0, none⟩ : Addr).add j) = some u)
    (hf : ∀ e ∈ fs, OwnAts w base e.a e.t.attrs ∧ ∀ g o, 0 < e.t.attrs.length → e.a = some ⟨g, o, none⟩ → ¬ v.ownBlock = some g) (hp : fs.Pairwise Apart) (hap : ∀ e ∈ es, ∀ f ∈ fs, Apart e f) (hn : es.length + fs.length ≤ 2097152) (hb : base ≤ w.heap.size)
    (h : ∀ a' c' w', Row w' base (.slice a' (es ++ fs).length c') (es ++ fs) → Below base w w' → w.grownBy w' v.ownBlock → wpList Tryz.prog ops Q rest (a.put o.dst (.slice a' (es ++ fs).length c')) w') : wpList Tryz.prog ops Q (o :: rest) a w := by
  subst hm
  obtain ⟨i0, hi, hz0, hz1, hz2⟩ := info_parts infoR
  refine wpList_append_own_at w hgd s x 24 ho base 32 i0 _ 4 64 Tryz.underlying24 hi hz0 hz1 hz2 rfl (by decide) v es.length (cs es) hs hown.own ⟨g, 0, none⟩ fs.length c (cs fs) hx (cs_len fs) hB (cs_cell fs) (by unfold maxLen; omega) (by omega) hb ?_
  intro v' w' ho' hg' _ hw'
  have hr := hown.join hf hp hap ho' hg' hw'
  obtain ⟨a', c', hv'⟩ := hr.slice
  subst hv'
  exact h a' c' w' hr ((Below.refl base w).grown hg' hb (fun k e => (hown.own.lt k e).1)) hg'

/-- .. as one step of a region that draws. -/
theorem step_join {ops : Array Oper} {o : Oper} {a : Act} {w : World} {K : Act → World → Prop} {Q : Exit → Act → World → Prop} {F : Prop} (hgd : o.guard = none) (s x : Operand)
    (ho : o.op = .call { callee := .builtin .append, args := #[s, x], argTypes := #[24, 24] }) (base : Nat) (v : Value) (es fs : List E) (hs : a.eval s = v) (hown : Row w base v es)
    (g m c : Nat) (hx : a.eval x = .slice (some ⟨g, 0, none⟩) m c) (hm : m = fs.length) (hB : ∀ j u, (cs fs)[j]? = some u → w.cell? ((⟨g, 0, none⟩ : Addr).add j) = some u)
    (hf : ∀ e ∈ fs, OwnAts w base e.a e.t.attrs ∧ ∀ g o, 0 < e.t.attrs.length → e.a = some ⟨g, o, none⟩ → ¬ v.ownBlock = some g) (hp : fs.Pairwise Apart) (hap : ∀ e ∈ es, ∀ f ∈ fs, Apart e f) (hn : es.length + fs.length ≤ 2097152) (hb : base ≤ w.heap.size)
    (h : ∀ a' c' w', Row w' base (.slice a' (es ++ fs).length c') (es ++ fs) → Below base w w' → w.grownBy w' v.ownBlock → K (a.put o.dst (.slice a' (es ++ fs).length c')) w') :
    if Region.wanted o (yielded ops a.tmps) = true then Oper.wp Tryz.prog o a w K Q else F := by
  have hw : Region.wanted o (yielded ops a.tmps) = true := by simp [Region.wanted, hgd]
  rw [if_pos hw]
  subst hm
  obtain ⟨i0, hi, hz0, hz1, hz2⟩ := info_parts infoR
  obtain ⟨v', w', hr, ho', hg', _, hw'⟩ := run_append_own_at (P := Tryz.prog) w base 24 o.type 32 i0 _ 4 64 Tryz.underlying24 hi hz0 hz1 hz2 rfl (by decide) v es.length (cs es) hown.own ⟨g, 0, none⟩ fs.length c (cs fs) (cs_len fs) hB (cs_cell fs) (by unfold maxLen; omega) (by omega) hb
  have hrow := hown.join hf hp hap ho' hg' hw'
  obtain ⟨a', c', hv'⟩ := hrow.slice
  subst hv'
  unfold Oper.wp execOp
  simp only [ho, resolve, invoke, builtin, Sem.run_bind, Sem.run_pure, Result.andThen_ok, List.map_toArray, List.map_cons, List.map_nil, hs, hx, hr]
  exact h a' c' w' hrow ((Below.refl base w).grown hg' hb (fun k e => (hown.own.lt k e).1)) hg'

end Go.Proofs.YtnbpcgeojmikoaaGreatDoor.Nd
