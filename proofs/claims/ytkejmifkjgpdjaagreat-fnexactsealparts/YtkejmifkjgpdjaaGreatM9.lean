/- Rows of nodes, as the exact laws size, copy and compare them. A row of tokens of which every list owns its memory: marks in it, set and held. A copy of attrs, in memory of its own. -/
import Derived.Test.YtkejmifkjgpdjaaGreatM3
import Derived.Maps.AppendAt
import Derived.Deep.Upon
namespace Go.Proofs.YtkejmifkjgpdjaaGreat.Nd
open Go.RowKit
set_option linter.unusedVariables false
set_option linter.unusedSimpArgs false

/-- How many attrs they have together. -/
def sumA (ts : List Tk) : Nat := (ts.map fun t => t.attrs.length).sum

theorem sumA_snoc (ts : List Tk) (t : Tk) : sumA (ts ++ [t]) = sumA ts + t.attrs.length := by simp [sumA]

set_option maxHeartbeats 2000000 in
theorem cSzNodeL (t : Tk) (a : Option Addr) (cap L : Nat) (w : World) (hR : AtRow w a t.attrs) (hs : TkSz maxLen t) (hL : L ≤ 1048576) :
    Calls Tryz.prog 13 #[tkV t a cap, .int .i64 L] w fun e w' => ∃ r : Int, e = .returned (.int .i64 r) ∧ (r = -1 ∨ 0 ≤ r ∧ r + t.attrs.length ≤ L ∧ TkSz L t) ∧ Below w.heap.size w w' := by
  obtain ⟨k, name, l, text⟩ := t
  obtain ⟨h1, h2, h3, h4⟩ := hs
  simp only at hR h1 h2 h3 h4
  have HR := hid (hR.below ((Below.refl w.heap.size w).alloc (Nat.le_refl _) (.cells #[.int .i64 k, .string name, .slice a l.length cap, .string text] 36)))
  have C := fun (M : Nat) (hM : M ≤ 1048576) (w : World) (hR : AtRow w a l) => cSzAttrS2 a cap l M w hR h3 h2 hM
  clear hR h3 h2
  have HT : Hid (∀ M : Nat, M ≤ L → name.size ≤ L → l.length ≤ M → AtSz M l → text.size ≤ L → TkSz L ⟨k, name, l, text⟩) :=
    fun M hM a b c d => ⟨a, by show l.length ≤ L; omega, fun x hx => by have := c x hx; omega, d⟩
  simp only [tkV]
  obtain ⟨n, hn⟩ : ∃ n, l.length = n := ⟨_, rfl⟩
  have HNL := hid hn
  rw [hn] at C HR HT ⊢
  clear hn
  unfold maxLen at h1 h4
  by_cases g1 : (L : Int) - name.size < 0
  · clear C
    go_enter Tryz.func13, Tryz.ntmps13
    go_wp2
    go_ret
    exact ⟨-1, rfl, .inl rfl, (Below.refl _ _).alloc (Nat.le_refl _) _⟩
  · obtain ⟨M, hM⟩ : ∃ M : Nat, (L : Int) - name.size = M := ⟨L - name.size, by omega⟩
    have hM1 : M ≤ 1048576 := by omega
    have C := C M hM1
    have e1 : wrap64 ((L : Int) - (name.size : Int)) = (M : Int) := (IntWalk.wrap64_in _ (by omega)).trans hM
    have e2 : IntKind.i64.wrap ((L : Int) - (name.size : Int)) = (M : Int) := (IntWalk.i64_in _ (by omega)).trans hM
    have hn1 : name.size ≤ L := by omega
    have hML : M ≤ L := by omega
    have HM := hid hM
    clear hM g1
    go_enter Tryz.func13, Tryz.ntmps13
    go_wp2_with fail
    refine (C _ HR.out).mono ?_
    rintro e w1 ⟨r, rfl, hr, hb1⟩
    obtain ⟨hc, hf⟩ := bcell hb1
    have HB1 := hid (((Below.refl w.heap.size w).alloc (Nat.le_refl _) _).trans (hb1.mono (by simp)))
    rcases hr with rfl | ⟨r0, r1, r2, r3, r4⟩
    · go_wp2_with fail
      go_ret
      exact ⟨-1, rfl, .inl rfl, HB1.out⟩
    · obtain ⟨R, rfl⟩ : ∃ R : Nat, r = R := ⟨r.toNat, by omega⟩
      have H3 := hid r3
      clear r3
      by_cases g2 : (R : Int) - text.size < 0
      · go_wp2
        go_ret
        exact ⟨-1, rfl, .inl rfl, HB1.out⟩
      · go_wp2
        go_ret
        exact ⟨(R : Int) - text.size, rfl, .inr ⟨by omega, by omega, HT.out M hML hn1 r2 H3.out (by omega)⟩, HB1.out⟩

set_option maxRecDepth 8000 in
set_option maxHeartbeats 2000000 in
theorem cSzNodeS (a : Option Addr) (cap : Nat) (ts : List Tk) (w : World) (hR : TkRow w a ts) (hz : TksSz maxLen ts) (hn : ts.length ≤ maxLen) :
    Calls Tryz.prog 4 #[.slice a ts.length cap, .int .i64 1048576] w fun e w' => ∃ r : Int, e = .returned (.int .i64 r) ∧ (r = -1 ∨ 0 ≤ r ∧ ts.length ≤ 1048576 ∧ TksSz 1048576 ts ∧ sumA ts ≤ 1048576) ∧ Below w.heap.size w w' := by
  have HR := hid hR
  have HZ := hid hz
  clear hR hz
  unfold maxLen at hn
  obtain ⟨n, hnn⟩ : ∃ n, ts.length = n := ⟨_, rfl⟩
  have HN := hid hnn
  rw [hnn] at hn ⊢
  clear hnn
  by_cases h1 : (1048576 : Int) - n < 0
  · go_enter Tryz.func4, Tryz.ntmps4
    go_wp2
    go_ret
    exact ⟨-1, rfl, .inl rfl, Below.refl _ _⟩
  · go_enter Tryz.func4, Tryz.ntmps4
    go_wp2
    go_loopw [1, 5] (fun v k wr => ∃ (i M : Nat), k = .int .i64 (i : Int) ∧ i ≤ n ∧ v = .int .i64 (M : Int) ∧ M + sumA (ts.take i) ≤ 1048576 ∧ Hid (TksSz 1048576 (ts.take i)) ∧ Hid (Below w.heap.size w wr)) (fun _ k _ => n - (intOf k).toNat)
    case atStart => exact ⟨0, 1048576 - n, rfl, Nat.zero_le _, by go_num, by rw [List.take_zero]; show 1048576 - n + 0 ≤ 1048576; omega, fun s hs => by simp at hs, Below.refl _ _⟩
    case round =>
      obtain ⟨i, M, rfl, hi, rfl, hM, HA, HB⟩ := hrel
      by_cases hlt : i < n
      · have his : i < ts.length := by rw [HN.out]; exact hlt
        obtain ⟨b, o, aa, ca, rfl, hb, c0, c1, c2, c3, cr⟩ := HR.out.below HB.out i his
        have hin : (i : Int) < (n : Int) := by omega
        have HT := hid (take_snocN his)
        have CR := hid cr
        have C := hid (cSzNodeL ts[i] aa ca M wr cr (HZ.out _ (List.getElem_mem his)) (by omega))
        have HSM := hid (show sumA (ts.take (i + 1)) = sumA (ts.take i) + ts[i].attrs.length by rw [take_snocN his, sumA_snoc])
        generalize sumA (ts.take i) = sm at *
        have HE : Hid (TkSz M ts[i] → TksSz 1048576 (ts.take (i + 1))) := by
          intro h
          rw [HT.out]
          intro s hs
          rcases List.mem_append.1 hs with h' | h'
          · exact HA.out s h'
          · rw [List.mem_singleton] at h'
            subst h'
            obtain ⟨p1, p2, p3, p4⟩ := h
            exact ⟨by omega, by omega, fun x hx => by have := p3 x hx; omega, by omega⟩
        clear cr
        simp only [tkV] at C
        generalize ts[i] = t at *
        go_wp2_with fail
        refine C.out.mono ?_
        rintro e w2 ⟨r, rfl, hr, hb2⟩
        have HB2 := hid (bb HB.out hb2)
        clear hb2 C c0 c1 c2 c3
        rcases hr with rfl | ⟨h0, hr, hz⟩
        · go_wp2_with fail
          go_ret
          exact ⟨-1, rfl, .inl rfl, HB2.out⟩
        · obtain ⟨R, rfl⟩ : ∃ R : Nat, r = R := ⟨r.toNat, by omega⟩
          have HZ2 := hid (HE.out hz)
          clear hz
          go_wp2_with fail
          go_roundw
          case rel => exact ⟨i + 1, R, by go_num, by omega, rfl, by rw [HSM.out]; omega, HZ2.out, HB2.out⟩
          case measure => simp [intOf]; omega
      · have hie : i = n := by omega
        subst hie
        have h2 := HA.out
        rw [List.take_of_length_le (by rw [HN.out]; exact Nat.le_refl _)] at h2
        have H2 := hid h2
        have HM2 := hid hM
        rw [List.take_of_length_le (by rw [HN.out]; exact Nat.le_refl _)] at HM2
        clear h2 hM
        go_wp2_with fail
        go_ret
        exact ⟨M, rfl, .inr ⟨by omega, by omega, H2.out, by have := HM2.out; omega⟩, HB.out⟩

set_option maxHeartbeats 2000000 in
theorem cToNode2 (t : Tk) (a : Option Addr) (cap : Nat) (w : World) (hR : AtRow w a t.attrs) (hn : t.attrs.length ≤ 1048576) :
    Calls Tryz.prog 21 #[tkV t a cap] w fun e w' => ∃ g cu, w.heap.size ≤ g ∧ e = .returned (tkV t (some ⟨g, 0, none⟩) t.attrs.length) ∧ w'.heap[g]? = some (.cells cu 62 (0, 0)) ∧ AtCells cu 0 t.attrs ∧ Below w.heap.size w w' := by
  obtain ⟨k, name, l, text⟩ := t
  simp only at hR hn
  simp only [tkV]
  obtain ⟨b1, b2, b3⟩ := heap3 w (.cells #[.int .i64 k, .string name, .slice a l.length cap, .string text] 36) (.cells #[.int .i64 0, .string ⟨#[]⟩, .slice none 0 0, .string ⟨#[]⟩] 44) (.cells #[.int .i64 k, .string name, .slice none 0 0, .string ⟨#[]⟩] 44)
  have HB0 := hid ((((Below.refl w.heap.size w).alloc (Nat.le_refl _) (.cells #[.int .i64 k, .string name, .slice a l.length cap, .string text] 36)).alloc (by simp) (.cells #[.int .i64 0, .string ⟨#[]⟩, .slice none 0 0, .string ⟨#[]⟩] 44)).alloc (by simp; omega) (.cells #[.int .i64 k, .string name, .slice none 0 0, .string ⟨#[]⟩] 44))
  have HR := hid (hR.below HB0.out)
  have C := fun (w : World) (hR : AtRow w a l) => cToAttrS2 a cap l w hR hn
  have H1 := hid b1
  have H2 := hid b2
  have H3 := hid b3
  clear b1 b2 b3 hR
  obtain ⟨n, hn⟩ : ∃ n, l.length = n := ⟨_, rfl⟩
  rw [hn] at C HR HB0 H1 H2 H3 ⊢
  clear hn
  go_enter Tryz.func21, Tryz.ntmps21
  go_wp2_with fail
  refine (C _ HR.out).mono ?_
  rintro e w1 ⟨g, cu, hg, rfl, hG1, hR1, hb1⟩
  have HR1 := hid hR1
  have HG1 := hid hG1
  have HB1 := hid (bb HB0.out hb1)
  obtain ⟨⟨x0, x1, x2, x3⟩, _⟩ := box4 (blk_below H1.out hb1)
  obtain ⟨⟨y0, y1, y2, y3⟩, yf0, yf1, yf2, yf3⟩ := box4 (blk_below H2.out hb1)
  obtain ⟨⟨z0, z1, z2, z3⟩, zf0, zf1, zf2, zf3⟩ := box4 (blk_below H3.out hb1)
  have hgw : w.heap.size + 3 ≤ g := by simpa using hg
  clear hR1 hG1 hb1 HB0 HR H1 H2 H3 C hg
  go_wp2_with fail
  refine bodyPost_ret (v := .agg #[.int .i64 k, .string name, .slice (some ⟨g, 0, none⟩) n n, .string text]) (by simp [results, Tryz.results21, go_sem, x0, x1, x2, x3, y0, y1, y2, y3, z0, z1, z2, z3]) rfl ⟨g, cu, by omega, rfl, ?_, HR1.out, ?_⟩
  · iterate 6 refine (Below.heap_setCell _ _ _ _ (by simp; omega)).trans ?_
    exact HG1.out
  · iterate 6 refine Below.setCell ?_ (by simp; try omega) _
    exact HB1.out

theorem cToNode (t : Tk) (a : Option Addr) (cap : Nat) (w : World) (hR : AtRow w a t.attrs) (hn : t.attrs.length ≤ 1048576) :
    Calls Tryz.prog 21 #[tkV t a cap] w fun e w' => ∃ g, w.heap.size ≤ g ∧ e = .returned (tkV t (some ⟨g, 0, none⟩) t.attrs.length) ∧ AtRow w' (some ⟨g, 0, none⟩) t.attrs ∧ Below w.heap.size w w' :=
  (cToNode2 t a cap w hR hn).mono fun _ _ ⟨g, cu, h1, h2, h3, h4, h5⟩ => ⟨g, h1, h2, h4.atRow h3, h5⟩

set_option maxHeartbeats 1000000 in
theorem cEqNode (t : Tk) (a c : Option Addr) (cap cap2 : Nat) (w : World) (hR : AtRow w a t.attrs) (hT : AtRow w c t.attrs) (hz : TkSz 1048576 t) :
    Calls Tryz.prog 27 #[tkV t a cap, tkV t c cap2] w fun e w' => e = .returned (.bool true) ∧ Below w.heap.size w w' := by
  obtain ⟨k, name, l, text⟩ := t
  obtain ⟨h1, h2, h3, h4⟩ := hz
  simp only at hR hT h1 h2 h3 h4
  simp only [tkV]
  have HB0 := hid (((Below.refl w.heap.size w).alloc (Nat.le_refl _) (.cells #[.int .i64 k, .string name, .slice a l.length cap, .string text] 44)).alloc (by simp) (.cells #[.int .i64 k, .string name, .slice c l.length cap2, .string text] 44))
  have HR := hid (hR.below HB0.out)
  have HT := hid (hT.below HB0.out)
  have C := fun (w : World) (hR : AtRow w a l) (hT : AtRow w c l) => cEqAttrS a c cap cap2 l w hR hT h3 h2
  clear hR hT h3 h2
  obtain ⟨n, hn⟩ : ∃ n, l.length = n := ⟨_, rfl⟩
  rw [hn] at C HR HT HB0 ⊢
  clear hn
  go_enter Tryz.func27, Tryz.ntmps27
  go_wp2_with fail
  refine (C _ HR.out HT.out).mono ?_
  rintro e w1 ⟨rfl, hb1⟩
  obtain ⟨hc, hf⟩ := bcell hb1
  have HB1 := hid (bb HB0.out hb1)
  have hz0 : w.heap.size + 1 < w1.heap.size := by have := hb1.size; simp at this; omega
  go_wp2_with fail
  go_ret
  exact ⟨rfl, HB1.out⟩

set_option maxRecDepth 8000 in
set_option maxHeartbeats 2000000 in
theorem cEqNodeS (a c : Option Addr) (cap cap2 : Nat) (ts : List Tk) (w : World) (hR : TkRow w a ts) (hT : TkRow w c ts) (hz : TksSz 1048576 ts) (hn : ts.length ≤ 1048576) :
    Calls Tryz.prog 9 #[.slice a ts.length cap, .slice c ts.length cap2] w fun e w' => e = .returned (.bool true) ∧ Below w.heap.size w w' := by
  have HR := hid hR
  have HT := hid hT
  have HZ := hid hz
  clear hR hT hz
  obtain ⟨n, hnn⟩ : ∃ n, ts.length = n := ⟨_, rfl⟩
  have HN := hid hnn
  rw [hnn] at hn ⊢
  clear hnn
  go_enter Tryz.func9, Tryz.ntmps9
  go_wp2
  go_loopw [5] (fun k wr => ∃ i : Nat, k = .int .i64 (i : Int) ∧ i ≤ n ∧ Hid (Below w.heap.size w wr)) (fun k _ => n - (intOf k).toNat)
  case atStart => exact ⟨0, rfl, Nat.zero_le _, Below.refl _ _⟩
  case round =>
    obtain ⟨i, rfl, hi, HB⟩ := hrel
    by_cases hlt : i < n
    · have his : i < ts.length := by rw [HN.out]; exact hlt
      have hin : (i : Int) < (n : Int) := by omega
      obtain ⟨b, o, aa, ca, rfl, hb, c0, c1, c2, c3, cr⟩ := HR.out.below HB.out i his
      obtain ⟨b2, o2, aa2, ca2, rfl, hb', k0, k1, k2, k3, kr⟩ := HT.out.below HB.out i his
      have C := fun (w : World) (h : AtRow w aa ts[i].attrs) (h2 : AtRow w aa2 ts[i].attrs) => cEqNode ts[i] aa aa2 ca ca2 w h h2 (HZ.out _ (List.getElem_mem his))
      have CR := hid cr
      have KR := hid kr
      have CC := fun p : BW wr => C p.w (CR.out.below p.h) (KR.out.below p.h)
      obtain ⟨d0, d1, d2, d3⟩ := quad_bw hb c0 c1 c2 c3
      obtain ⟨j0, j1, j2, j3⟩ := quad_bw hb' k0 k1 k2 k3
      have HNB := hid (bw_any wr)
      clear c0 c1 c2 c3 k0 k1 k2 k3 cr kr C
      go_wp2_with fail
      haveI := HNB.out
      refine wp_region_below (by kernel_rfl) (by kernel_rfl) (Below.refl wr.heap.size wr) ?_
      repeat (go_big_quiet_step ((go_at_call 27; exact calls_bw _ (CC _))))
      refine wpQuiet_nil ?_
      intro w2 hw'
      obtain ⟨⟨wx, hb2⟩, hw''⟩ := hw'
      subst hw''
      have HB2 := hid (bb HB.out hb2)
      clear this HNB CC d0 d1 d2 d3 j0 j1 j2 j3 hb2
      go_wp2_with fail
      go_roundw
      case rel => exact ⟨i + 1, by go_num, by omega, HB2.out⟩
      case measure => simp [intOf]; omega
    · have hie : i = n := by omega
      subst hie
      go_wp2_with fail
      go_ret
      exact ⟨rfl, HB.out⟩

theorem infoTk : (Tryz.prog.info? 44).map (fun i => (i.zero, i.size, i.bytes)) = some (some (.agg #[.int .i64 0, .string ⟨#[]⟩, .slice none 0 0, .string ⟨#[]⟩]), 4, 64) := by kernel_rfl

theorem makeTk (w : World) (n : Nat) (hn : n ≤ 1048576) : ∃ v w', (Instr.makeSlice 26 (.int .i64 (n : Int)) (.int .i64 (n : Int))).run Tryz.prog w = .ok v w' ∧ v = .slice (some ⟨w.heap.size, 0, none⟩) n n ∧ (∃ cur : Array Value, w'.heap[w.heap.size]? = some (.cells cur 44 (0, 0)) ∧ cur.size = n * 4) ∧ w.grownBy w' none := by
  obtain ⟨i0, hi, hz0, hz1, hz2⟩ := info_parts infoTk
  obtain ⟨w', hrun, r1, r2⟩ := run_make_full (P := Tryz.prog) w w.heap.size 26 44 i0 _ 4 Tryz.underlying26 hi hz0 hz1 .i64 .i64 n (by rw [hz2]; omega) (by unfold maxLen; omega) (Nat.le_refl _)
  refine ⟨_, w', hrun, rfl, ?_, r2⟩
  rcases r1.2 with ⟨h, _⟩ | ⟨g, cap', cur, h, hgb, hh, _, _, hsz, _⟩
  · cases h
  · cases h
    exact ⟨cur, hh, by omega⟩

/-- The first i of these lie in the cells, each list in a block of its own behind g, later ones later. -/
structure Laid (ts : List Tk) (g i : Nat) (G : Nat → Nat) (cur : Array Value) (wr : World) : Prop where
  cells : ∀ j (h : j < ts.length), j < i → cur[j * 4]? = some (.int .i64 ts[j].kind) ∧ cur[j * 4 + 1]? = some (.string ts[j].name) ∧ cur[j * 4 + 2]? = some (.slice (some ⟨G j, 0, none⟩) ts[j].attrs.length ts[j].attrs.length) ∧ cur[j * 4 + 3]? = some (.string ts[j].text)
  row : ∀ j (h : j < ts.length), j < i → g < G j ∧ ∃ cu, wr.heap[G j]? = some (.cells cu 62 (0, 0)) ∧ AtCells cu 0 ts[j].attrs
  later : ∀ j k, j < k → k < i → G j < G k

theorem Laid.start (ts : List Tk) (g : Nat) (cur : Array Value) (wr : World) : Laid ts g 0 (fun _ => 0) cur wr := ⟨fun j _ h => by omega, fun j _ h => by omega, fun j k _ h => by omega⟩

theorem Laid.below {ts : List Tk} {g i : Nat} {G : Nat → Nat} {cur : Array Value} {wr w' : World} (h : Laid ts g i G cur wr) (hb : Below wr.heap.size wr w') : Laid ts g i G cur w' :=
  ⟨h.cells, fun j hj hi => ⟨(h.row j hj hi).1, by
    obtain ⟨_, cu, hh, hc⟩ := h.row j hj hi
    exact ⟨cu, (hb.block _ (lt_of_heap hh)).trans hh, hc⟩⟩, h.later⟩

theorem Laid.set {ts : List Tk} {g i : Nat} {G : Nat → Nat} {cur : Array Value} {wr : World} (h : Laid ts g i G cur wr) (o : Nat) (v : Value) : Laid ts g i G cur (wr.setCell ⟨g, o, none⟩ v) :=
  ⟨h.cells, fun j hj hi => ⟨(h.row j hj hi).1, by
    obtain ⟨hg, cu, hh, hc⟩ := h.row j hj hi
    exact ⟨cu, (Below.heap_setCell wr _ v _ (by simp; omega)).trans hh, hc⟩⟩, h.later⟩

abbrev put4 (cur : Array Value) (i : Nat) (x y z u : Value) : Array Value := (((cur.setIfInBounds (i * 4) x).setIfInBounds (i * 4 + 1) y).setIfInBounds (i * 4 + 2) z).setIfInBounds (i * 4 + 3) u

theorem put4_same {cur : Array Value} {i n : Nat} {x y z u : Value} (hs : cur.size = n * 4) (hi : i < n) : (put4 cur i x y z u)[i * 4]? = some x ∧ (put4 cur i x y z u)[i * 4 + 1]? = some y ∧ (put4 cur i x y z u)[i * 4 + 2]? = some z ∧ (put4 cur i x y z u)[i * 4 + 3]? = some u := by
  refine ⟨?_, ?_, ?_, ?_⟩ <;> simp [put4, Array.getElem?_setIfInBounds, hs] <;> omega

theorem put4_other {cur : Array Value} {i j : Nat} {x y z u : Value} (h : ¬ i = j) (r : Nat) (hr : r < 4) : (put4 cur i x y z u)[j * 4 + r]? = cur[j * 4 + r]? := by
  simp only [put4, Array.getElem?_setIfInBounds]
  rw [if_neg (by omega), if_neg (by omega), if_neg (by omega), if_neg (by omega)]

theorem Laid.next {ts : List Tk} {g i n : Nat} {G : Nat → Nat} {cur : Array Value} {wr : World} (h : Laid ts g i G cur wr) (hi : i < ts.length) (hn : i < n) (hs : cur.size = n * 4) {gi : Nat} {cu : Array Value} (h1 : g < gi) (hl : ∀ j, j < i → G j < gi) (h2 : wr.heap[gi]? = some (.cells cu 62 (0, 0))) (hr : AtCells cu 0 ts[i].attrs) :
    Laid ts g (i + 1) (fun j => if j = i then gi else G j) (put4 cur i (.int .i64 ts[i].kind) (.string ts[i].name) (.slice (some ⟨gi, 0, none⟩) ts[i].attrs.length ts[i].attrs.length) (.string ts[i].text)) wr := by
  refine ⟨fun j hj hlt => ?_, fun j hj hlt => ?_, fun j k hjk hk => ?_⟩
  · by_cases e : j = i
    · subst e
      rw [if_pos rfl]
      exact put4_same hs hn
    · rw [if_neg e]
      have := h.cells j hj (by omega)
      have ne : ¬ i = j := fun x => e x.symm
      exact ⟨(put4_other ne 0 (by omega)).trans this.1, (put4_other ne 1 (by omega)).trans this.2.1, (put4_other ne 2 (by omega)).trans this.2.2.1, (put4_other ne 3 (by omega)).trans this.2.2.2⟩
  · by_cases e : j = i
    · subst e
      simp only [if_true]
      exact ⟨h1, cu, h2, hr⟩
    · simp only [if_neg e]
      exact h.row j hj (by omega)
  · by_cases e : k = i
    · subst e
      simp only [if_true, if_neg (show ¬ j = k by omega)]
      exact hl j hjk
    · simp only [if_neg e, if_neg (show ¬ j = i by omega)]
      exact h.later j k hjk (by omega)

theorem Laid.tkRow {ts : List Tk} {g : Nat} {G : Nat → Nat} {cur : Array Value} {wr : World} (h : Laid ts g ts.length G cur wr) (hh : wr.heap[g]? = some (.cells cur 44 (0, 0))) : TkRow wr (some ⟨g, 0, none⟩) ts := by
  intro j hj
  obtain ⟨c0, c1, c2, c3⟩ := h.cells j hj hj
  refine ⟨g, 0, some ⟨G j, 0, none⟩, ts[j].attrs.length, rfl, lt_of_heap hh, ?_, ?_, ?_, ?_, by obtain ⟨_, cu, h1, h2⟩ := h.row j hj hj; exact h2.atRow h1⟩
  · rw [Lib.cell_of_heap hh, Nat.zero_add]; exact c0
  · rw [Lib.cell_of_heap hh, Nat.zero_add]; exact c1
  · rw [Lib.cell_of_heap hh, Nat.zero_add]; exact c2
  · rw [Lib.cell_of_heap hh, Nat.zero_add]; exact c3

set_option maxRecDepth 8000 in
set_option maxHeartbeats 4000000 in
theorem cToNodeSL (a : Option Addr) (cap : Nat) (ts : List Tk) (w : World) (hR : TkRow w a ts) (hz : TksSz 1048576 ts) (hn : ts.length ≤ 1048576) :
    Calls Tryz.prog 6 #[.slice a ts.length cap] w fun e w' => ∃ G cur, e = .returned (.slice (some ⟨w.heap.size, 0, none⟩) ts.length ts.length) ∧ w'.heap[w.heap.size]? = some (.cells cur 44 (0, 0)) ∧ cur.size = ts.length * 4 ∧ Laid ts w.heap.size ts.length G cur w' ∧ Below w.heap.size w w' := by
  have HR := hid hR
  have HZ := hid hz
  clear hR hz
  obtain ⟨n, hnn⟩ : ∃ n, ts.length = n := ⟨_, rfl⟩
  have HN := hid hnn
  rw [hnn] at hn ⊢
  clear hnn
  go_enter Tryz.func6, Tryz.ntmps6
  go_wp2_with fail
  refine upon_ex (makeTk w n hn) ?_
  rintro _ w1 ⟨rfl, ⟨cur, hcur, hcs⟩, hg⟩
  have HB := hid ((Below.refl w.heap.size w).grown hg (Nat.le_refl _) (by simp))
  have HC := hid hcur
  clear hcur hg
  go_wp2_with fail
  go_loopw [4] (fun k wr => ∃ (i : Nat) (G : Nat → Nat) (cur : Array Value), k = .int .i64 (i : Int) ∧ i ≤ n ∧ Hid (wr.heap[w.heap.size]? = some (.cells cur 44 (0, 0))) ∧ cur.size = n * 4 ∧ Hid (Laid ts w.heap.size i G cur wr) ∧ Hid (Below w.heap.size w wr)) (fun k _ => n - (intOf k).toNat)
  case atStart => exact ⟨0, fun _ => 0, cur, rfl, Nat.zero_le _, HC.out, hcs, Laid.start _ _ _ _, HB.out⟩
  case round =>
    clear HC HB hcs cur
    obtain ⟨i, G, cur, rfl, hi, HH, hcs, HA, HB⟩ := hrel
    have hsz : w.heap.size < wr.heap.size := lt_of_heap HH.out
    by_cases hlt : i < n
    · have his : i < ts.length := by rw [HN.out]; exact hlt
      obtain ⟨b, o, aa, ca, rfl, hb, c0, c1, c2, c3, cr⟩ := HR.out.below HB.out i his
      have hin : (i : Int) < (n : Int) := by omega
      have C := hid (cToNode2 ts[i] aa ca wr cr (HZ.out _ (List.getElem_mem his)).2.1)
      have HL : Hid (∀ (gi : Nat) (w2 : World) (cu : Array Value), Laid ts w.heap.size i G cur w2 → w.heap.size < gi → (∀ j, j < i → G j < gi) → w2.heap[gi]? = some (.cells cu 62 (0, 0)) → AtCells cu 0 ts[i].attrs → Laid ts w.heap.size (i + 1) (fun j => if j = i then gi else G j) (put4 cur i (.int .i64 ts[i].kind) (.string ts[i].name) (.slice (some ⟨gi, 0, none⟩) ts[i].attrs.length ts[i].attrs.length) (.string ts[i].text)) w2) :=
        fun gi w2 cu h h1 h2 h3 h4 => h.next his hlt hcs h1 h2 h3 h4
      clear cr
      simp only [tkV] at C
      generalize ts[i] = t at *
      go_wp2_with fail
      refine C.out.mono ?_
      rintro e w2 ⟨gi, cu, hgi, rfl, hh2, hr2, hb2⟩
      have HB2 := hid (HB.out.trans (hb2.mono HB.out.size))
      have HH2 := hid ((hb2.block _ (lt_of_heap HH.out)).trans HH.out)
      have HA2 := hid (HA.out.below hb2)
      have HR2 := hid (And.intro hh2 hr2)
      have hx : ∀ r, r < 4 → ∃ v, w2.cell? ⟨w.heap.size, i * 4 + r, none⟩ = some v := by
        intro r hr
        rw [Lib.cell_of_heap HH2.out]
        exact ⟨cur[i * 4 + r]'(by omega), Array.getElem?_eq_getElem (by omega)⟩
      obtain ⟨o0, k0⟩ := hx 0 (by omega)
      obtain ⟨o1, k1⟩ := hx 1 (by omega)
      obtain ⟨o2, k2⟩ := hx 2 (by omega)
      obtain ⟨o3, k3⟩ := hx 3 (by omega)
      rw [Nat.add_zero] at k0
      have f0 : w2.frozen? ⟨w.heap.size, i * 4, none⟩ = false := Lib.frozen_of_heap HH2.out _
      have f1 : w2.frozen? ⟨w.heap.size, i * 4 + 1, none⟩ = false := Lib.frozen_of_heap HH2.out _
      have f2 : w2.frozen? ⟨w.heap.size, i * 4 + 2, none⟩ = false := Lib.frozen_of_heap HH2.out _
      have f3 : w2.frozen? ⟨w.heap.size, i * 4 + 3, none⟩ = false := Lib.frozen_of_heap HH2.out _
      have HL2 := hid (HL.out gi w2 cu HA2.out (by omega) (fun j hji => by obtain ⟨_, _, hh, _⟩ := HA.out.row j (by omega) hji; have := lt_of_heap hh; omega) HR2.out.1 HR2.out.2)
      have HL3 := hid ((((HL2.out.set (i * 4) (.int .i64 t.kind)).set (i * 4 + 1) (.string t.name)).set (i * 4 + 2) (.slice (some ⟨gi, 0, none⟩) t.attrs.length t.attrs.length)).set (i * 4 + 3) (.string t.text))
      have HS2 := hid (show ((((w2.setCell ⟨w.heap.size, i * 4, none⟩ (.int .i64 t.kind)).setCell ⟨w.heap.size, i * 4 + 1, none⟩ (.string t.name)).setCell ⟨w.heap.size, i * 4 + 2, none⟩ (.slice (some ⟨gi, 0, none⟩) t.attrs.length t.attrs.length)).setCell ⟨w.heap.size, i * 4 + 3, none⟩ (.string t.text)).heap[w.heap.size]? = some (.cells (put4 cur i (.int .i64 t.kind) (.string t.name) (.slice (some ⟨gi, 0, none⟩) t.attrs.length t.attrs.length) (.string t.text)) 44 (0, 0)) by
        simp [World.setCell, Array.getElem?_modify, HH2.out, put4])
      have HB3 := hid ((((HB2.out.setCell (p := ⟨w.heap.size, i * 4, none⟩) (Nat.le_refl _) (.int .i64 t.kind)).setCell (p := ⟨w.heap.size, i * 4 + 1, none⟩) (Nat.le_refl _) (.string t.name)).setCell (p := ⟨w.heap.size, i * 4 + 2, none⟩) (Nat.le_refl _) (.slice (some ⟨gi, 0, none⟩) t.attrs.length t.attrs.length)).setCell (p := ⟨w.heap.size, i * 4 + 3, none⟩) (Nat.le_refl _) (.string t.text))
      have HC2 := hid (show (put4 cur i (.int .i64 t.kind) (.string t.name) (.slice (some ⟨gi, 0, none⟩) t.attrs.length t.attrs.length) (.string t.text)).size = n * 4 by simp [put4, hcs])
      clear hb2 C c0 c1 c2 c3 hr2 hh2 HL HL2
      go_wp2_with fail
      go_roundw
      case rel => exact ⟨i + 1, _, _, by go_num, by omega, HS2.out, HC2.out, HL3.out, HB3.out⟩
      case measure => simp [intOf]; omega
    · have hie : i = n := by omega
      subst hie
      go_wp2_with fail
      go_ret
      exact ⟨G, cur, rfl, HH.out, hcs, HA.out, HB.out⟩

end Go.Proofs.YtkejmifkjgpdjaaGreat.Nd

namespace Go.Proofs.YtkejmifkjgpdjaaGreat
open Go.RowKit
set_option linter.unusedVariables false
set_option linter.unusedSimpArgs false

/-- Where a row of tokens and their attrs lie. -/
structure Shape where
  R : Nat
  o : Nat
  n : Nat
  len : Nat → Nat
  aa : Nat → Option Addr
  A : Nat → Nat
  O : Nat → Nat
  C : Nat → Nat

/-- From block B on; no two lists in one block. -/
structure Shape.Ok (s : Shape) (B : Nat) : Prop where
  row : B ≤ s.R
  at_ : ∀ j, j < s.n → 0 < s.len j → s.aa j = some ⟨s.A j, s.O j, none⟩ ∧ B ≤ s.A j ∧ ¬ s.A j = s.R
  apart : ∀ i j, i < s.n → j < s.n → ¬ i = j → 0 < s.len i → 0 < s.len j → ¬ s.A i = s.A j

/-- The blocks of the row and of its lists. -/
def Shape.Has (s : Shape) (b : Nat) : Prop := b = s.R ∨ ∃ j, j < s.n ∧ 0 < s.len j ∧ b = s.A j

theorem Shape.Ok.has {s : Shape} {B : Nat} (h : s.Ok B) {b : Nat} (hb : s.Has b) : B ≤ b := by
  rcases hb with rfl | ⟨j, hj, hl, rfl⟩
  · exact h.row
  · exact (h.at_ j hj hl).2.1

structure TkCells (cur : Array Value) (p : Nat) (t : Tk) (aa : Option Addr) (cap : Nat) : Prop where
  c0 : cur[p]? = some (.int .i64 t.kind)
  c1 : cur[p + 1]? = some (.string t.name)
  c2 : cur[p + 2]? = some (.slice aa t.attrs.length cap)
  c3 : cur[p + 3]? = some (.string t.text)

/-- The tokens f lie there. -/
structure Shape.Holds (s : Shape) (w : World) (f : Nat → Tk) : Prop where
  row : ∃ cur, w.heap[s.R]? = some (.cells cur 113 (0, 0)) ∧ ∀ j, j < s.n → TkCells cur (s.o + j * 4) (f j) (s.aa j) (s.C j)
  len : ∀ j, j < s.n → (f j).attrs.length = s.len j
  ats : ∀ j, j < s.n → 0 < s.len j → ∃ cu, w.heap[s.A j]? = some (.cells cu 62 (0, 0)) ∧ AtCells cu (s.O j) (f j).attrs

theorem Shape.Holds.keep {s : Shape} {w w' : World} {f : Nat → Tk} {p : Nat → Prop} (h : s.Holds w f) (k : KeepB p w w') (h1 : ¬ p s.R) (h2 : ∀ j, j < s.n → 0 < s.len j → ¬ p (s.A j)) : s.Holds w' f := by
  obtain ⟨cur, hc, hr⟩ := h.row
  refine ⟨⟨cur, (k.block _ (lt_of_heap hc) h1).trans hc, hr⟩, h.len, fun j hj hl => ?_⟩
  obtain ⟨cu, hcu, ha⟩ := h.ats j hj hl
  exact ⟨cu, (k.block _ (lt_of_heap hcu) (h2 j hj hl)).trans hcu, ha⟩
-- over type 113

theorem Shape.Holds.below {s : Shape} {w w' : World} {f : Nat → Tk} (h : s.Holds w f) (k : Below w.heap.size w w') : s.Holds w' f :=
  h.keep (KeepB.of_below (fun _ => False) k) (fun x => x) (fun _ _ _ x => x)
-- over type 113

theorem Shape.Holds.atRow {s : Shape} {w : World} {f : Nat → Tk} {B : Nat} (h : s.Holds w f) (ok : s.Ok B) (j : Nat) (hj : j < s.n) : AtRow w (s.aa j) (f j).attrs := by
  intro m hm
  have hl : 0 < s.len j := by rw [← h.len j hj]; omega
  obtain ⟨cu, hcu, ha⟩ := h.ats j hj hl
  obtain ⟨c1, c2⟩ := ha m hm
  exact ⟨s.A j, s.O j, (ok.at_ j hj hl).1, lt_of_heap hcu, by rw [Lib.cell_of_heap hcu]; exact c1, by rw [Lib.cell_of_heap hcu]; exact c2⟩
-- over type 113

theorem Shape.Holds.tkRow {s : Shape} {w : World} {f : Nat → Tk} {B : Nat} {ts : List Tk} (h : s.Holds w f) (ok : s.Ok B) (hn : ts.length = s.n) (hf : ∀ j (hj : j < ts.length), f j = ts[j]) : TkRow w (some ⟨s.R, s.o, none⟩) ts := by
  intro j hj
  obtain ⟨cur, hc, hr⟩ := h.row
  have hjn : j < s.n := by omega
  have t := hr j hjn
  have ha := h.atRow ok j hjn
  rw [hf j hj] at t ha
  exact ⟨s.R, s.o, s.aa j, s.C j, rfl, lt_of_heap hc, by rw [Lib.cell_of_heap hc]; exact t.c0, by rw [Lib.cell_of_heap hc]; exact t.c1, by rw [Lib.cell_of_heap hc]; exact t.c2, by rw [Lib.cell_of_heap hc]; exact t.c3, ha⟩
-- over type 113

/-- Attrs that bear the marks from k on. -/
def mkAts (k n : Nat) : List At := (List.range n).map fun j => ⟨markS (k + 2 * j), markS (k + 2 * j + 1)⟩

theorem mkAts_len (k n : Nat) : (mkAts k n).length = n := by simp [mkAts]

theorem mkAts_get (k n j : Nat) (h : j < (mkAts k n).length) : (mkAts k n)[j].name = markS (k + 2 * j) ∧ (mkAts k n)[j].value = markS (k + 2 * j + 1) := by
  simp [mkAts]

/-- A token that bears the marks from k on. -/
def mkTk (k n : Nat) : Tk := ⟨k, markS (k + 1), mkAts (k + 2) n, markS (k + 2 + 2 * n)⟩

/-- The first mark of token j. -/
def Shape.K (s : Shape) (k : Nat) : Nat → Nat
  | 0 => k
  | j + 1 => Shape.K s k j + (3 + 2 * s.len j)

theorem Shape.K_le (s : Shape) (k : Nat) : ∀ j m, j ≤ m → s.K k j ≤ s.K k m := by
  intro j m h
  induction m with
  | zero =>
    have : j = 0 := by omega
    subst this; exact Nat.le_refl _
  | succ m ih =>
    rcases Nat.lt_or_eq_of_le h with h' | h'
    · have := ih (by omega)
      show s.K k j ≤ s.K k m + (3 + 2 * s.len m)
      omega
    · subst h'; exact Nat.le_refl _

theorem marksA_cells {cu : Array Value} {o n k : Nat} (h : MarksA cu o n k) : AtCells cu o (mkAts k n) := by
  intro m hm
  obtain ⟨h1, h2⟩ := mkAts_get k n m hm
  rw [mkAts_len] at hm
  rw [h1, h2]
  exact h m hm

end Go.Proofs.YtkejmifkjgpdjaaGreat

namespace Go.Proofs.YtkejmifkjgpdjaaGreat
open Go.RowKit
set_option linter.unusedVariables false
set_option linter.unusedSimpArgs false

theorem add_plainW (b o j : Nat) : (⟨b, o, none⟩ : Addr).add j = ⟨b, o + j, none⟩ := by unfold Addr.add; split <;> simp_all

/-- append of nothing. -/
theorem wpL_none {P : Program} (w : World) {ops : Array Oper} {rest : List Oper} {o : Oper} {a : Act} {Q : Exit → Act → World → Prop} (hgd : o.guard = none) (s x : Operand) (t e : TypeId) (i : TypeInfo)
    (ho : o.op = .call { callee := .builtin .append, args := #[s, x], argTypes := #[t, t] }) (ht : P.underlying t = some (.slice e)) (hi : P.info? e = some i)
    (b : Option Addr) (n c : Nat) (hs : a.eval s = .slice b n c) (hle : n ≤ c) (ax : Option Addr) (cx : Nat) (hx : a.eval x = .slice ax 0 cx)
    (h : wpList P ops Q rest (a.put o.dst (.slice b n c)) w) : wpList P ops Q (o :: rest) a w := by
  refine wpList_plain hgd fun K hK => ?_
  have hsrc : Src P i.size t (.slice ax 0 cx) 0 [] w := by
    cases ax with
    | none => exact Src.ofNil w ht cx
    | some ad => exact Src.ofSlice w ht ad 0 cx [] (by simp) (fun j u h => by simp at h) (fun u h => by cases h)
  have hr := run_append_nothing (P := P) w t t o.type e i ht hi b n c hle _ hsrc
  unfold Oper.wp execOp
  simp only [ho, resolve, invoke, builtin, Sem.run_bind, Sem.run_pure, Result.andThen_ok, List.map_toArray, List.map_cons, List.map_nil, hs, hx, hr]
  exact hK _ _ h

/-- Attrs as cells. -/
def atC (l : List At) : List Value := l.flatMap fun x => [.string x.name, .string x.value]

theorem atC_len (l : List At) : (atC l).length = l.length * 2 := by
  induction l with
  | nil => rfl
  | cons x l ih => show (atC l).length + 2 = _; rw [ih, List.length_cons]; omega

theorem atC_get (l : List At) (j : Nat) (h : j < l.length) : (atC l)[j * 2]? = some (.string l[j].name) ∧ (atC l)[j * 2 + 1]? = some (.string l[j].value) := by
  induction l generalizing j with
  | nil => simp at h
  | cons x l ih =>
    have e : atC (x :: l) = .string x.name :: .string x.value :: atC l := rfl
    rw [e]
    match j with
    | 0 => exact ⟨rfl, rfl⟩
    | j + 1 =>
      have := ih j (by simpa using h)
      rw [show (j + 1) * 2 = j * 2 + 1 + 1 by omega]
      exact this

theorem atC_one (l : List At) : ∀ u ∈ atC l, u.oneCell' = true := by
  intro u hu
  unfold atC at hu
  obtain ⟨x, _, hx⟩ := List.mem_flatMap.1 hu
  simp at hx
  rcases hx with rfl | rfl <;> rfl

theorem atC_row {w : World} {b o : Nat} {l : List At} (h : AtRow w (some ⟨b, o, none⟩) l) : ∀ j u, (atC l)[j]? = some u → w.cell? ((⟨b, o, none⟩ : Addr).add j) = some u := by
  intro j u hj
  have hlt : j < l.length * 2 := by
    rw [← atC_len]
    exact (List.getElem?_eq_some_iff.1 hj).1
  rw [add_plainW]
  obtain ⟨b', o', e, _, c1, c2⟩ := h (j / 2) (by omega)
  cases e
  obtain ⟨g1, g2⟩ := atC_get l (j / 2) (by omega)
  rcases Nat.mod_two_eq_zero_or_one j with h2 | h2
  · have e2 : j / 2 * 2 = j := by omega
    rw [e2] at g1 c1
    rw [g1] at hj
    cases hj
    exact c1
  · have e2 : j / 2 * 2 + 1 = j := by omega
    rw [Nat.add_assoc, e2] at c2
    rw [e2] at g2
    rw [g2] at hj
    cases hj
    exact c2

theorem infoAtW : (Tryz.prog.info? 62).map (fun i => (i.zero, i.size, i.bytes)) = some (some (.agg #[.string ⟨#[]⟩, .string ⟨#[]⟩]), 2, 32) := by kernel_rfl

/-- A list of attrs in a block of its own, from B on. -/
def OwnAts (w : World) (B : Nat) (a : Option Addr) (l : List At) : Prop := 0 < l.length → ∃ g o cu, a = some ⟨g, o, none⟩ ∧ B ≤ g ∧ w.heap[g]? = some (.cells cu 62 (0, 0)) ∧ AtCells cu o l

theorem OwnAts.atRow {w : World} {B : Nat} {a : Option Addr} {l : List At} (h : OwnAts w B a l) : AtRow w a l := by
  intro j hj
  obtain ⟨g, o, cu, e, _, hh, hc⟩ := h (by omega)
  obtain ⟨c1, c2⟩ := hc j hj
  exact ⟨g, o, e, lt_of_heap hh, by rw [Lib.cell_of_heap hh]; exact c1, by rw [Lib.cell_of_heap hh]; exact c2⟩

theorem OwnAts.below {w w' : World} {B : Nat} {a : Option Addr} {l : List At} (h : OwnAts w B a l) (hb : Below w.heap.size w w') : OwnAts w' B a l := by
  intro hl
  obtain ⟨g, o, cu, e, hB, hh, hc⟩ := h hl
  exact ⟨g, o, cu, e, hB, (hb.block g (lt_of_heap hh)).trans hh, hc⟩

end Go.Proofs.YtkejmifkjgpdjaaGreat
