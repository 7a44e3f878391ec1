/- Contracts of what the exact laws call on attrs: sized, copied, compared; a row of attrs among the arguments, opened. A row of attrs among the arguments, opened. Contracts of what the exact laws call on tokens: sized, copied, compared; a token among the arguments, opened. -/
import Derived.Test.YtkejmifkjgpdjaaGreatM1
import Derived.Lib.SmallJoins
import Derived.Deep.SlicePairs
import Derived.ProofKit
import Derived.OpenShut
namespace Go.Proofs.YtkejmifkjgpdjaaGreat
open Go.RowKit
set_option linter.unusedVariables false
set_option linter.unusedSimpArgs false

/-- The attrs lie in these cells, from o on. -/
def AtCells (cu : Array Value) (o : Nat) (l : List At) : Prop := ∀ m (h : m < l.length), cu[o + m * 2]? = some (.string l[m].name) ∧ cu[o + m * 2 + 1]? = some (.string l[m].value)

theorem AtCells.atRow {w : World} {g o : Nat} {cu : Array Value} {T : TypeId} {l : List At} (h : AtCells cu o l) (hh : w.heap[g]? = some (.cells cu T (0, 0))) : AtRow w (some ⟨g, o, none⟩) l := fun j hj =>
  ⟨g, o, rfl, lt_of_heap hh, by rw [Lib.cell_of_heap hh]; exact (h j hj).1, by rw [Lib.cell_of_heap hh]; exact (h j hj).2⟩

theorem pair_bw {W : World} {b o : Nat} {x y : Value} (hb : b < W.heap.size) (h1 : W.cell? ⟨b, o, none⟩ = some x) (h2 : W.cell? ⟨b, o + 1, none⟩ = some y) :
    (∀ p : BW W, p.w.cell? ⟨b, o, none⟩ = some x) ∧ (∀ p : BW W, p.w.cell? ⟨b, o + 1, none⟩ = some y) :=
  ⟨fun p => (p.h.cell (p := ⟨b, o, none⟩) hb).trans h1, fun p => (p.h.cell (p := ⟨b, o + 1, none⟩) hb).trans h2⟩

set_option maxHeartbeats 1000000 in
theorem cSzAttr (x y : ByteArray) (L : Nat) (w : World) (hL : L ≤ 1048576) (hx : x.size ≤ maxLen) (hy : y.size ≤ maxLen) :
    Calls Tryz.prog 63 #[.agg #[.string x, .string y], .int .i64 L] w fun e w' => ∃ r : Int, e = .returned (.int .i64 r) ∧ (r = -1 ∨ 0 ≤ r ∧ r = L - x.size - y.size) ∧ Below w.heap.size w w' := by
  unfold maxLen at hx hy
  by_cases h1 : (L : Int) - x.size < 0
  · go_enter Tryz.func63, Tryz.ntmps63
    go_wp2
    go_ret
    exact ⟨-1, rfl, .inl rfl, (Below.refl _ _).alloc (Nat.le_refl _) _⟩
  · by_cases h2 : (L : Int) - x.size - y.size < 0
    · go_enter Tryz.func63, Tryz.ntmps63
      go_wp2
      go_ret
      exact ⟨-1, rfl, .inl rfl, (Below.refl _ _).alloc (Nat.le_refl _) _⟩
    · go_enter Tryz.func63, Tryz.ntmps63
      go_wp2
      go_ret
      exact ⟨(L : Int) - x.size - y.size, rfl, .inr ⟨by omega, rfl⟩, (Below.refl _ _).alloc (Nat.le_refl _) _⟩

set_option maxHeartbeats 2000000 in
theorem cSzAttrS2 (a : Option Addr) (cap : Nat) (l : List At) (L : Nat) (w : World) (hR : AtRow w a l) (hz : AtSz maxLen l) (hn : l.length ≤ maxLen) (hL : L ≤ 1048576) :
    Calls Tryz.prog 30 #[.slice a l.length cap, .int .i64 L] w fun e w' => ∃ r : Int, e = .returned (.int .i64 r) ∧ (r = -1 ∨ 0 ≤ r ∧ r ≤ L ∧ l.length ≤ L ∧ AtSz L l ∧ r + l.length ≤ L) ∧ Below w.heap.size w w' := by
  have HR := hid hR
  have HZ := hid hz
  clear hR hz
  unfold maxLen at hn
  obtain ⟨n, hnn⟩ : ∃ n, l.length = n := ⟨_, rfl⟩
  have HN := hid hnn
  rw [hnn] at hn ⊢
  clear hnn
  by_cases h1 : (L : Int) - n < 0
  · go_enter Tryz.func30, Tryz.ntmps30
    go_wp2
    go_ret
    exact ⟨-1, rfl, .inl rfl, Below.refl _ _⟩
  · go_enter Tryz.func30, Tryz.ntmps30
    go_wp2
    go_loopw [1, 5] (fun v k wr => ∃ (i M : Nat), k = .int .i64 (i : Int) ∧ i ≤ n ∧ v = .int .i64 (M : Int) ∧ M + n ≤ L ∧ Hid (AtSz L (l.take i)) ∧ Hid (Below w.heap.size w wr)) (fun _ k _ => n - (intOf k).toNat)
    case atStart => exact ⟨0, L - n, rfl, Nat.zero_le _, by go_num, by omega, fun s hs => by simp at hs, Below.refl _ _⟩
    case round =>
      obtain ⟨i, M, rfl, hi, rfl, hM, HA, HB⟩ := hrel
      by_cases hlt : i < n
      · have his : i < l.length := by rw [HN.out]; exact hlt
        obtain ⟨b, o, rfl, hb, c1, c2⟩ := HR.out.below HB.out i his
        have hin : (i : Int) < (n : Int) := by omega
        have HT := hid (take_snocN his)
        obtain ⟨z1, z2⟩ := HZ.out _ (List.getElem_mem his)
        have C := fun w => cSzAttr l[i].name l[i].value M w (by omega) z1 z2
        have HE : Hid (∀ (x y : ByteArray), l[i].name = x → l[i].value = y → x.size ≤ L → y.size ≤ L → AtSz L (l.take (i + 1))) := by
          intro x y hx hy h1 h2
          rw [HT.out]
          intro s hs
          rcases List.mem_append.1 hs with h | h
          · exact HA.out s h
          · rw [List.mem_singleton] at h
            subst h
            rw [hx, hy]
            exact ⟨h1, h2⟩
        obtain ⟨x, hx⟩ : ∃ x, l[i].name = x := ⟨_, rfl⟩
        obtain ⟨y, hy⟩ : ∃ y, l[i].value = y := ⟨_, rfl⟩
        have HX := hid hx
        have HY := hid hy
        rw [hx] at c1 C
        rw [hy] at c2 C
        clear hx hy z1 z2
        go_wp2_with fail
        refine (C _).mono ?_
        rintro e w2 ⟨r, rfl, hr, hb2⟩
        have HB2 := hid (bb HB.out hb2)
        clear hb2 C
        rcases hr with rfl | ⟨h0, hr⟩
        · go_wp2_with fail
          go_ret
          exact ⟨-1, rfl, .inl rfl, HB2.out⟩
        · obtain ⟨R, rfl⟩ : ∃ R : Nat, r = R := ⟨r.toNat, by omega⟩
          go_wp2_with fail
          go_roundw
          case rel => exact ⟨i + 1, R, by go_num, by omega, by first | rfl | rw [← hr], by omega, HE.out x y HX.out HY.out (by omega) (by omega), HB2.out⟩
          case measure => simp [intOf]; omega
      · have hie : i = n := by omega
        subst hie
        have h2 := HA.out
        rw [List.take_of_length_le (by rw [HN.out]; exact Nat.le_refl _)] at h2
        have H2 := hid h2
        clear h2
        go_wp2_with fail
        go_ret
        exact ⟨M, rfl, .inr ⟨by omega, by omega, by omega, H2.out, by omega⟩, HB.out⟩

theorem cSzAttrS (a : Option Addr) (cap : Nat) (l : List At) (L : Nat) (w : World) (hR : AtRow w a l) (hz : AtSz maxLen l) (hn : l.length ≤ maxLen) (hL : L ≤ 1048576) :
    Calls Tryz.prog 30 #[.slice a l.length cap, .int .i64 L] w fun e w' => ∃ r : Int, e = .returned (.int .i64 r) ∧ (r = -1 ∨ 0 ≤ r ∧ r ≤ L ∧ l.length ≤ L ∧ AtSz L l) ∧ Below w.heap.size w w' :=
  (cSzAttrS2 a cap l L w hR hz hn hL).mono fun _ _ ⟨r, h1, h2, h3⟩ => ⟨r, h1, h2.imp id fun ⟨g1, g2, g3, g4, _⟩ => ⟨g1, g2, g3, g4⟩, h3⟩

theorem cToAttr (x y : ByteArray) (w : World) :
    Calls Tryz.prog 74 #[.agg #[.string x, .string y]] w fun e w' => e = .returned (.agg #[.string x, .string y]) ∧ Below w.heap.size w w' := by
  go_enter Tryz.func74, Tryz.ntmps74
  go_wp2
  refine bodyPost_ret (v := .agg #[.string x, .string y]) (by simp [results, Tryz.results74, go_sem]) rfl ⟨rfl, ?_⟩
  repeat first | exact Below.refl _ _ | refine Below.setCell ?_ (by simp; try omega) _ | refine Below.alloc ?_ (by simp; try omega) _

theorem cEqAttr (x y : ByteArray) (w : World) (hx : x.size ≤ 1048576) (hy : y.size ≤ 1048576) :
    Calls Tryz.prog 102 #[.agg #[.string x, .string y], .agg #[.string x, .string y]] w fun e w' => e = .returned (.bool true) ∧ Below w.heap.size w w' := by
  go_enter Tryz.func102, Tryz.ntmps102
  go_wp2
  go_ret
  refine ⟨rfl, ?_⟩
  repeat first | exact Below.refl _ _ | refine Below.setCell ?_ (by simp; try omega) _ | refine Below.alloc ?_ (by simp; try omega) _

theorem infoAt : (Tryz.prog.info? 62).map (fun i => (i.zero, i.size, i.bytes)) = some (some (.agg #[.string ⟨#[]⟩, .string ⟨#[]⟩]), 2, 32) := by kernel_rfl

theorem makeAt (w : World) (n : Nat) (hn : n ≤ 1048576) : ∃ v w', (Instr.makeSlice 42 (.int .i64 (n : Int)) (.int .i64 (n : Int))).run Tryz.prog w = .ok v w' ∧ v = .slice (some ⟨w.heap.size, 0, none⟩) n n ∧ (∃ cur : Array Value, w'.heap[w.heap.size]? = some (.cells cur 62 (0, 0)) ∧ cur.size = n * 2) ∧ w.grownBy w' none := by
  obtain ⟨i0, hi, hz0, hz1, hz2⟩ := info_parts infoAt
  obtain ⟨w', hrun, r1, r2⟩ := run_make_full (P := Tryz.prog) w w.heap.size 42 62 i0 _ 2 Tryz.underlying42 hi hz0 hz1 .i64 .i64 n (by rw [hz2]; omega) (by unfold maxLen; omega) (Nat.le_refl _)
  refine ⟨_, w', hrun, rfl, ?_, r2⟩
  rcases r1.2 with ⟨h, _⟩ | ⟨g, cap', cur, h, hgb, hh, _, _, hsz, _⟩
  · cases h
  · cases h
    exact ⟨cur, hh, by omega⟩

set_option maxHeartbeats 2000000 in
set_option maxRecDepth 8000 in
theorem cToAttrS2 (a : Option Addr) (cap : Nat) (l : List At) (w : World) (hR : AtRow w a l) (hn : l.length ≤ 1048576) :
    Calls Tryz.prog 46 #[.slice a l.length cap] w fun e w' => ∃ g cu, w.heap.size ≤ g ∧ e = .returned (.slice (some ⟨g, 0, none⟩) l.length l.length) ∧ w'.heap[g]? = some (.cells cu 62 (0, 0)) ∧ AtCells cu 0 l ∧ Below w.heap.size w w' := by
  have HR := hid hR
  clear hR
  obtain ⟨n, hnn⟩ : ∃ n, l.length = n := ⟨_, rfl⟩
  have HN := hid hnn
  rw [hnn] at hn ⊢
  clear hnn
  go_enter Tryz.func46, Tryz.ntmps46
  go_wp2_with fail
  refine upon_ex (makeAt w n hn) ?_
  rintro _ w1 ⟨rfl, ⟨cur, hcur, hcs⟩, hg⟩
  have HB := hid ((Below.refl w.heap.size w).grown hg (Nat.le_refl _) (by simp))
  have HC := hid hcur
  clear hcur hg
  go_wp2_with fail
  go_loopw [4] (fun k wr => ∃ (i : Nat) (cur : Array Value), k = .int .i64 (i : Int) ∧ i ≤ n ∧ Hid (wr.heap[w.heap.size]? = some (.cells cur 62 (0, 0))) ∧ cur.size = n * 2 ∧ Hid (∀ j (h : j < l.length), j < i → cur[j * 2]? = some (.string l[j].name) ∧ cur[j * 2 + 1]? = some (.string l[j].value)) ∧ Hid (Below w.heap.size w wr)) (fun k _ => n - (intOf k).toNat)
  case atStart => exact ⟨0, cur, rfl, Nat.zero_le _, HC.out, hcs, fun j _ h => by omega, HB.out⟩
  case round =>
    clear HC HB hcs cur
    obtain ⟨i, cur, rfl, hi, HH, hcs, HA, HB⟩ := hrel
    have hsz : w.heap.size < wr.heap.size := lt_of_heap HH.out
    by_cases hlt : i < n
    · have his : i < l.length := by rw [HN.out]; exact hlt
      obtain ⟨b, o, rfl, hb, c1, c2⟩ := HR.out.below HB.out i his
      have hin : (i : Int) < (n : Int) := by omega
      obtain ⟨x, hx⟩ : ∃ x, l[i].name = x := ⟨_, rfl⟩
      obtain ⟨y, hy⟩ : ∃ y, l[i].value = y := ⟨_, rfl⟩
      have HX := hid hx
      have HY := hid hy
      rw [hx] at c1
      rw [hy] at c2
      clear hx hy
      have C := fun w => cToAttr x y w
      go_wp2_with fail
      refine (C _).mono ?_
      rintro e w2 ⟨rfl, hb2⟩
      have HB2 := hid (HB.out.trans (hb2.mono HB.out.size))
      have HH2 := hid ((hb2.block _ (lt_of_heap HH.out)).trans HH.out)
      have hx1 : ∃ v, w2.cell? ⟨w.heap.size, i * 2, none⟩ = some v := by
        rw [Lib.cell_of_heap HH2.out]
        exact ⟨cur[i * 2]'(by omega), Array.getElem?_eq_getElem (by omega)⟩
      have hx2 : ∃ v, w2.cell? ⟨w.heap.size, i * 2 + 1, none⟩ = some v := by
        rw [Lib.cell_of_heap HH2.out]
        exact ⟨cur[i * 2 + 1]'(by omega), Array.getElem?_eq_getElem (by omega)⟩
      obtain ⟨o1, k1⟩ := hx1
      obtain ⟨o2, k2⟩ := hx2
      have f1 : w2.frozen? ⟨w.heap.size, i * 2, none⟩ = false := Lib.frozen_of_heap HH2.out _
      have f2 : w2.frozen? ⟨w.heap.size, i * 2 + 1, none⟩ = false := Lib.frozen_of_heap HH2.out _
      have HS2 := hid (show ((w2.setCell ⟨w.heap.size, i * 2, none⟩ (.string x)).setCell ⟨w.heap.size, i * 2 + 1, none⟩ (.string y)).heap[w.heap.size]? = some (.cells ((cur.setIfInBounds (i * 2) (.string x)).setIfInBounds (i * 2 + 1) (.string y)) 62 (0, 0)) by
        simp [World.setCell, Array.getElem?_modify, HH2.out])
      have HA2 := hid (show ∀ j (h : j < l.length), j < i + 1 → ((cur.setIfInBounds (i * 2) (.string x)).setIfInBounds (i * 2 + 1) (.string y))[j * 2]? = some (.string l[j].name) ∧ ((cur.setIfInBounds (i * 2) (.string x)).setIfInBounds (i * 2 + 1) (.string y))[j * 2 + 1]? = some (.string l[j].value) from fun j h hj => by
        by_cases e : i = j
        · subst e
          rw [HX.out, HY.out]
          simp [Array.getElem?_setIfInBounds, hcs]
          omega
        · have := HA.out j h (by omega)
          simp only [Array.getElem?_setIfInBounds]
          rw [if_neg (by omega), if_neg (by omega), if_neg (by omega), if_neg (by omega)]
          exact this)
      have HB3 := hid ((HB2.out.setCell (p := ⟨w.heap.size, i * 2, none⟩) (Nat.le_refl _) (.string x)).setCell (p := ⟨w.heap.size, i * 2 + 1, none⟩) (Nat.le_refl _) (.string y))
      have HC2 := hid (show ((cur.setIfInBounds (i * 2) (.string x)).setIfInBounds (i * 2 + 1) (.string y)).size = n * 2 by simp [hcs])
      clear hb2 C c1 c2
      go_wp2_with fail
      go_roundw
      case rel => exact ⟨i + 1, _, by go_num, by omega, HS2.out, HC2.out, HA2.out, HB3.out⟩
      case measure => simp [intOf]; omega
    · have hie : i = n := by omega
      subst hie
      go_wp2_with fail
      go_ret
      exact ⟨w.heap.size, cur, Nat.le_refl _, rfl, HH.out, fun j hj => by rw [Nat.zero_add]; exact HA.out j hj (by rw [← HN.out]; exact hj), HB.out⟩

theorem cToAttrS (a : Option Addr) (cap : Nat) (l : List At) (w : World) (hR : AtRow w a l) (hn : l.length ≤ 1048576) :
    Calls Tryz.prog 46 #[.slice a l.length cap] w fun e w' => ∃ g, w.heap.size ≤ g ∧ e = .returned (.slice (some ⟨g, 0, none⟩) l.length l.length) ∧ AtRow w' (some ⟨g, 0, none⟩) l ∧ Below w.heap.size w w' :=
  (cToAttrS2 a cap l w hR hn).mono fun _ _ ⟨g, cu, h1, h2, h3, h4, h5⟩ => ⟨g, h1, h2, h4.atRow h3, h5⟩

set_option maxHeartbeats 2000000 in
theorem cEqAttrS (a c : Option Addr) (cap cap2 : Nat) (l : List At) (w : World) (hR : AtRow w a l) (hT : AtRow w c l) (hz : AtSz 1048576 l) (hn : l.length ≤ 1048576) :
    Calls Tryz.prog 62 #[.slice a l.length cap, .slice c l.length cap2] w fun e w' => e = .returned (.bool true) ∧ Below w.heap.size w w' := by
  have HR := hid hR
  have HT := hid hT
  have HZ := hid hz
  clear hR hT hz
  obtain ⟨n, hnn⟩ : ∃ n, l.length = n := ⟨_, rfl⟩
  have HN := hid hnn
  rw [hnn] at hn ⊢
  clear hnn
  go_enter Tryz.func62, Tryz.ntmps62
  go_wp2
  go_loopw [5] (fun k wr => ∃ i : Nat, k = .int .i64 (i : Int) ∧ i ≤ n ∧ Hid (Below w.heap.size w wr)) (fun k _ => n - (intOf k).toNat)
  case atStart => exact ⟨0, rfl, Nat.zero_le _, Below.refl _ _⟩
  case round =>
    obtain ⟨i, rfl, hi, HB⟩ := hrel
    by_cases hlt : i < n
    · have his : i < l.length := by rw [HN.out]; exact hlt
      have hin : (i : Int) < (n : Int) := by omega
      obtain ⟨b, o, rfl, hb, c1, c2⟩ := HR.out.below HB.out i his
      obtain ⟨b2, o2, rfl, hb', k1, k2⟩ := HT.out.below HB.out i his
      obtain ⟨z1, z2⟩ := HZ.out _ (List.getElem_mem his)
      have C := fun w => cEqAttr l[i].name l[i].value w z1 z2
      obtain ⟨x, hx⟩ : ∃ x, l[i].name = x := ⟨_, rfl⟩
      obtain ⟨y, hy⟩ : ∃ y, l[i].value = y := ⟨_, rfl⟩
      rw [hx] at c1 k1 C
      rw [hy] at c2 k2 C
      clear hx hy z1 z2
      have HNB := hid (bw_any wr)
      obtain ⟨d1, d2⟩ := pair_bw hb c1 c2
      obtain ⟨j1, j2⟩ := pair_bw hb' k1 k2
      clear c1 c2 k1 k2
      go_wp2_with fail
      haveI := HNB.out
      refine wp_region_below (by kernel_rfl) (by kernel_rfl) (Below.refl wr.heap.size wr) ?_
      repeat (go_big_quiet_step ((go_at_call 102; exact calls_bw _ (C _))))
      refine wpQuiet_nil ?_
      intro _ hw'
      obtain ⟨⟨wq, hwq⟩, hw''⟩ := hw'
      subst hw''
      have HB2 := hid (bb HB.out hwq)
      clear C d1 d2 j1 j2
      go_wp2_with fail
      go_roundw
      case rel => exact ⟨i + 1, by go_num, by omega, HB2.out⟩
      case measure => simp [intOf]; omega
    · have hie : i = n := by omega
      subst hie
      go_wp2_with fail
      go_ret
      exact ⟨rfl, HB.out⟩

end Go.Proofs.YtkejmifkjgpdjaaGreat

namespace Go.Proofs.YtkejmifkjgpdjaaGreat
open Go.ChangeShapes Go.WideShapes Go.ChangeAt Go.RowKit
set_option linter.unusedVariables false

def strVN (v : Value) : ByteArray := match v with | .string s => s | _ => ByteArray.empty

/-- A slice of attrs that can be read, by the cell that it lies in. -/
theorem attrs_of {H : Type} {enc : TypeId × Value → H} {W : World} {fuel : Nat} {v : Value} {x : DataW H × List MemPlace}
    (h : DataW.trod enc Tryz.prog W 0 (fun _ => true) true fuel 34 [v] = some x) (hlt : ∀ y ∈ x.2, y.block < W.heap.size) :
    ∃ (a : Option Addr) (cap : Nat) (l : List At), v = .slice a l.length cap ∧ l.length ≤ maxLen ∧ AtRow W a l ∧ AtSz maxLen l := by
  rcases Deep.open_slice_pairs Tryz.underlying34 Tryz.underlying98 (by kernel_rfl) rfl rfl (by kernel_rfl) (by kernel_rfl) h with ⟨hcs, hx⟩ | ⟨a, len, cap, m, n, V0, V1, D0, D1, P0, P1, hcs, _, hl, hm, hmm, hx, hall⟩
  · simp only [List.cons.injEq, and_true] at hcs
    subst hcs
    exact ⟨none, 0, [], rfl, by simp, fun j h => by simp at h, fun s h => by simp at h⟩
  · simp only [List.cons.injEq, and_true] at hcs
    subst hcs
    simp only [if_true] at hmm
    subst hmm
    have each : ∀ i, i < len → (V0 i = .string (strVN (V0 i)) ∧ V1 i = .string (strVN (V1 i))) ∧ (strVN (V0 i)).size ≤ maxLen ∧ (strVN (V1 i)).size ≤ maxLen := by
      intro i hi
      obtain ⟨_, _, t0, t1⟩ := hall i (by omega)
      obtain ⟨s, hs, _, ws⟩ := DataW.trod_string Tryz.underlying9 t0
      obtain ⟨u, hu, _, wu⟩ := DataW.trod_string Tryz.underlying9 t1
      simp only [List.cons.injEq, and_true] at hs hu
      rw [hs, hu]
      exact ⟨⟨rfl, rfl⟩, ws, wu⟩
    refine ⟨some a, m, (List.range len).map fun i => ⟨strVN (V0 i), strVN (V1 i)⟩, by simp, by simp; omega, fun j hj => ?_, fun y hy => ?_⟩
    · simp only [List.length_map, List.length_range] at hj
      obtain ⟨b, off, spot⟩ := a
      have hc := hall j (by omega)
      have hspot : spot = none := by simpa [Addr.add] using World.cell?_spot (hall 0 (by omega)).1
      subst hspot
      have e := each j hj
      have c1 := hc.1
      have c2 := hc.2.1
      rw [add_plain] at c1 c2
      refine ⟨b, off, rfl, hlt (.cell b off) (by rw [hx]; exact List.mem_append_left _ (MemPlace.mem_row.2 ⟨0, by omega, by simp⟩)), ?_, ?_⟩
      · rw [c1, e.1.1]; simp [strVN]
      · rw [← Nat.add_assoc] at c2
        rw [c2, e.1.2]; simp [strVN]
    · obtain ⟨i, hi, rfl⟩ := List.mem_map.1 hy
      exact (each i (List.mem_range.1 hi)).2

theorem attrs_arg {H : Type} {enc : TypeId × Value → H} {W : World} {v : Value} {d : DataW H} {p : List MemPlace}
    (h : DataW.Trod enc Tryz.prog W 0 (fun _ => true) true 34 v d p) (hv : ∃ a len cap, v = .slice a len cap) (hlt : ∀ y ∈ p, y.block < W.heap.size) :
    ∃ (a : Option Addr) (cap : Nat) (l : List At), v = .slice a l.length cap ∧ l.length ≤ maxLen ∧ AtRow W a l ∧ AtSz maxLen l := by
  obtain ⟨fuel, hf⟩ := h
  obtain ⟨a, len, cap, rfl⟩ := hv
  exact attrs_of (x := (d, p)) (by simpa [Value.cells] using hf) hlt

end Go.Proofs.YtkejmifkjgpdjaaGreat

namespace Go.Proofs.YtkejmifkjgpdjaaGreat
open Go.RowKit
set_option linter.unusedVariables false
set_option linter.unusedSimpArgs false

/-- A token; a node, too (its parent for its kind). -/
structure Tk where
  kind : Int
  name : ByteArray
  attrs : List At
  text : ByteArray

/-- A token's cells, its attrs in the row at a. -/
abbrev tkV (t : Tk) (a : Option Addr) (cap : Nat) : Value := .agg #[.int .i64 t.kind, .string t.name, .slice a t.attrs.length cap, .string t.text]

def TkSz (n : Nat) (t : Tk) : Prop := t.name.size ≤ n ∧ t.attrs.length ≤ n ∧ AtSz n t.attrs ∧ t.text.size ≤ n

theorem heap3 (w : World) (A B C : Obj) : (((w.alloc A).alloc B).alloc C).heap[w.heap.size]? = some A ∧ (((w.alloc A).alloc B).alloc C).heap[w.heap.size + 1]? = some B ∧ (((w.alloc A).alloc B).alloc C).heap[w.heap.size + 2]? = some C := by
  have s1 : (w.alloc A).heap.size = w.heap.size + 1 := by simp
  have s2 : ((w.alloc A).alloc B).heap.size = w.heap.size + 2 := by simp
  refine ⟨?_, ?_, ?_⟩
  · rw [Below.heap_alloc _ _ _ (by omega), Below.heap_alloc _ _ _ (by omega)]
    exact heap_alloc_new w A
  · rw [Below.heap_alloc _ _ _ (by omega), ← s1]
    exact heap_alloc_new _ B
  · rw [← s2]
    exact heap_alloc_new _ C

theorem box4 {w : World} {g : Nat} {x y z u : Value} {T : TypeId} (h : w.heap[g]? = some (.cells #[x, y, z, u] T (0, 0))) :
    (w.cell? ⟨g, 0, none⟩ = some x ∧ w.cell? ⟨g, 1, none⟩ = some y ∧ w.cell? ⟨g, 2, none⟩ = some z ∧ w.cell? ⟨g, 3, none⟩ = some u) ∧ (w.frozen? ⟨g, 0, none⟩ = false ∧ w.frozen? ⟨g, 1, none⟩ = false ∧ w.frozen? ⟨g, 2, none⟩ = false ∧ w.frozen? ⟨g, 3, none⟩ = false) :=
  ⟨⟨by rw [Lib.cell_of_heap h]; rfl, by rw [Lib.cell_of_heap h]; rfl, by rw [Lib.cell_of_heap h]; rfl, by rw [Lib.cell_of_heap h]; rfl⟩, Lib.frozen_of_heap h 0, Lib.frozen_of_heap h 1, Lib.frozen_of_heap h 2, Lib.frozen_of_heap h 3⟩

theorem AtRow.setCell {w : World} {g o : Nat} {l : List At} (h : AtRow w (some ⟨g, o, none⟩) l) {p : Addr} (hne : ¬ g = p.block) (v : Value) : AtRow (w.setCell p v) (some ⟨g, o, none⟩) l := by
  intro j hj
  obtain ⟨b, o', e, hlt, c1, c2⟩ := h j hj
  cases e
  have hb := Below.heap_setCell w p v g hne
  refine ⟨g, o, rfl, lt_of_heap (hb.trans (Array.getElem?_eq_getElem hlt)), ?_, ?_⟩
  · rw [World.cell?_of_block (w := w) hb]; exact c1
  · rw [World.cell?_of_block (w := w) hb]; exact c2

theorem blk_below {w w1 : World} {B : Nat} {o : Obj} (h : w.heap[B]? = some o) (k : Below w.heap.size w w1) : w1.heap[B]? = some o := (k.block B (lt_of_heap h)).trans h

theorem blk_alloc {w : World} {B : Nat} {o : Obj} (h : w.heap[B]? = some o) (o' : Obj) : (w.alloc o').heap[B]? = some o := (Below.heap_alloc w o' B (lt_of_heap h)).trans h

end Go.Proofs.YtkejmifkjgpdjaaGreat
