/- Contracts of what the exact laws call on tables: sized, copied, compared. -/
import Derived.Test.YtdgppdjjmpjgkaaUSpec
namespace Go.Proofs.Ytdgppdjjmpjgkaa
open Go.RowKit
set_option linter.unusedVariables false
set_option linter.unusedSimpArgs false

set_option maxHeartbeats 1000000 in
theorem cSzRow (x : ByteArray) (y : Int) (L : Nat) (w : World) (hL : L ≤ 1048576) (hx : x.size ≤ maxLen) :
    Calls Try.prog 61 #[.agg #[.string x, .int .i64 y], .int .i64 L] w fun e w' => ∃ r : Int, e = .returned (.int .i64 r) ∧ (r = -1 ∨ 0 ≤ r ∧ r = L - x.size) ∧ Below w.heap.size w w' := by
  unfold maxLen at hx
  by_cases h1 : (L : Int) - x.size < 0
  · go_enter Try.func61, Try.ntmps61
    go_wp2
    go_ret
    exact ⟨-1, rfl, .inl rfl, (Below.refl _ _).alloc (Nat.le_refl _) _⟩
  · go_enter Try.func61, Try.ntmps61
    go_wp2
    go_ret
    exact ⟨(L : Int) - x.size, rfl, .inr ⟨by omega, rfl⟩, (Below.refl _ _).alloc (Nat.le_refl _) _⟩

set_option maxHeartbeats 2000000 in
theorem cSzRowS (a : Option Addr) (cap : Nat) (l : List Ro) (L : Nat) (w : World) (hR : RoRow w a l) (hz : RoSz maxLen l) (hn : l.length ≤ maxLen) (hL : L ≤ 1048576) :
    Calls Try.prog 41 #[.slice a l.length cap, .int .i64 L] w fun e w' => ∃ r : Int, e = .returned (.int .i64 r) ∧ (r = -1 ∨ 0 ≤ r ∧ r ≤ L ∧ l.length ≤ L ∧ RoSz L l) ∧ Below w.heap.size w w' := by
  have HR := hid hR
  have HZ := hid hz
  clear hR hz
  unfold maxLen at hn
  obtain ⟨n, hnn⟩ : ∃ n, l.length = n := ⟨_, rfl⟩
  have HN := hid hnn
  rw [hnn] at hn ⊢
  clear hnn
  by_cases h1 : (L : Int) - n < 0
  · go_enter Try.func41, Try.ntmps41
    go_wp2
    go_ret
    exact ⟨-1, rfl, .inl rfl, Below.refl _ _⟩
  · go_enter Try.func41, Try.ntmps41
    go_wp2
    go_loopw [1, 5] (fun v k wr => ∃ (i M : Nat), k = .int .i64 (i : Int) ∧ i ≤ n ∧ v = .int .i64 (M : Int) ∧ M + n ≤ L ∧ Hid (RoSz L (l.take i)) ∧ Hid (Below w.heap.size w wr)) (fun _ k _ => n - (intOf k).toNat)
    case atStart => exact ⟨0, L - n, rfl, Nat.zero_le _, by go_num, by omega, fun s hs => by simp at hs, Below.refl _ _⟩
    case round =>
      obtain ⟨i, M, rfl, hi, rfl, hM, HA, HB⟩ := hrel
      by_cases hlt : i < n
      · have his : i < l.length := by rw [HN.out]; exact hlt
        obtain ⟨b, o, rfl, hb, c1, c2⟩ := HR.out.below HB.out i his
        have hin : (i : Int) < (n : Int) := by omega
        have HT := hid (take_snocN his)
        have z1 := HZ.out _ (List.getElem_mem his)
        have C := fun w => cSzRow l[i].id l[i].til M w (by omega) z1
        have HE : Hid (∀ (x : ByteArray), l[i].id = x → x.size ≤ L → RoSz L (l.take (i + 1))) := by
          intro x hx h1
          rw [HT.out]
          intro s hs
          rcases List.mem_append.1 hs with h | h
          · exact HA.out s h
          · rw [List.mem_singleton] at h
            subst h
            rw [hx]
            exact h1
        obtain ⟨x, hx⟩ : ∃ x, l[i].id = x := ⟨_, rfl⟩
        have HX := hid hx
        rw [hx] at c1 C
        generalize l[i].til = y at *
        clear hx z1
        go_wp2_with fail
        refine (C _).mono ?_
        rintro e w2 ⟨r, rfl, hr, hb2⟩
        have HB2 := hid (bb HB.out hb2)
        clear hb2 C
        rcases hr with rfl | ⟨h0, hr⟩
        · go_wp2_with fail
          go_ret
          exact ⟨-1, rfl, .inl rfl, HB2.out⟩
        · obtain ⟨R, rfl⟩ : ∃ R : Nat, r = R := ⟨r.toNat, by omega⟩
          go_wp2_with fail
          go_roundw
          case rel => exact ⟨i + 1, R, by go_num, by omega, by first | rfl | rw [← hr], by omega, HE.out x HX.out (by omega), HB2.out⟩
          case measure => simp [intOf]; omega
      · have hie : i = n := by omega
        subst hie
        have h2 := HA.out
        rw [List.take_of_length_le (by rw [HN.out]; exact Nat.le_refl _)] at h2
        have H2 := hid h2
        clear h2
        go_wp2_with fail
        go_ret
        exact ⟨M, rfl, .inr ⟨by omega, by omega, by omega, H2.out⟩, HB.out⟩

theorem cSzTable (t : Tb) (a : Option Addr) (cap : Nat) (w : World) (hR : RoRow w a t.rows) (hz : RoSz maxLen t.rows) (hn : t.rows.length ≤ maxLen) :
    Calls Try.prog 18 #[tbV t a cap, .int .i64 1048576] w fun e w' => ∃ r : Int, e = .returned (.int .i64 r) ∧ (r = -1 ∨ 0 ≤ r ∧ t.rows.length ≤ 1048576 ∧ RoSz 1048576 t.rows) ∧ Below w.heap.size w w' := by
  have C := hid (fun wx (h : Below w.heap.size w wx) => cSzRowS a cap t.rows 1048576 wx (hR.below h) hz hn (Nat.le_refl _))
  have HB0 := hid ((Below.refl w.heap.size w).alloc (Nat.le_refl _) (.cells #[.int .i64 t.most, .slice a t.rows.length cap] 25))
  have HF : Hid (∀ r : Int, (r = -1 ∨ 0 ≤ r ∧ r ≤ (1048576 : Nat) ∧ t.rows.length ≤ 1048576 ∧ RoSz 1048576 t.rows) → (r = -1 ∨ 0 ≤ r ∧ t.rows.length ≤ 1048576 ∧ RoSz 1048576 t.rows)) := fun r h => h.imp id fun ⟨h1, _, h3, h4⟩ => ⟨h1, h3, h4⟩
  obtain ⟨F, hF⟩ : ∃ F : Prop, (t.rows.length ≤ 1048576 ∧ RoSz 1048576 t.rows) = F := ⟨_, rfl⟩
  unfold tbV
  rw [hF] at HF C ⊢
  generalize t.rows.length = n at *
  generalize t.most = m at *
  clear hR hz hF
  go_enter Try.func18, Try.ntmps18
  go_wp2_with fail
  refine (C.out _ HB0.out).mono ?_
  rintro e w1 ⟨r, rfl, hr, hb1⟩
  have HB1 := hid (bb HB0.out hb1)
  have HR2 := hid (HF.out r hr)
  clear hb1 hr C HF
  by_cases h0 : r < 0
  · go_wp2_with fail
    go_ret
    exact ⟨-1, rfl, .inl rfl, HB1.out⟩
  · go_wp2_with fail
    go_ret
    exact ⟨r, rfl, HR2.out, HB1.out⟩

theorem cToRow (x : ByteArray) (y : Int) (w : World) :
    Calls Try.prog 62 #[.agg #[.string x, .int .i64 y]] w fun e w' => e = .returned (.agg #[.string x, .int .i64 y]) ∧ Below w.heap.size w w' := by
  go_enter Try.func62, Try.ntmps62
  go_wp2
  refine bodyPost_ret (v := .agg #[.string x, .int .i64 y]) (by simp [results, Try.results62, go_sem]) rfl ⟨rfl, ?_⟩
  repeat first | exact Below.refl _ _ | refine Below.setCell ?_ (by simp; try omega) _ | refine Below.alloc ?_ (by simp; try omega) _

theorem cEqRow (x : ByteArray) (y : Int) (w : World) (hx : x.size ≤ 1048576) :
    Calls Try.prog 70 #[.agg #[.string x, .int .i64 y], .agg #[.string x, .int .i64 y]] w fun e w' => e = .returned (.bool true) ∧ Below w.heap.size w w' := by
  go_enter Try.func70, Try.ntmps70
  go_wp2
  go_ret
  refine ⟨rfl, ?_⟩
  repeat first | exact Below.refl _ _ | refine Below.setCell ?_ (by simp; try omega) _ | refine Below.alloc ?_ (by simp; try omega) _

theorem infoRo : (Try.prog.info? 74).map (fun i => (i.zero, i.size, i.bytes)) = some (some (.agg #[.string ⟨#[]⟩, .int .i64 0]), 2, 24) := by kernel_rfl

theorem makeRo (w : World) (n : Nat) (hn : n ≤ 1048576) : ∃ v w', (Instr.makeSlice 31 (.int .i64 (n : Int)) (.int .i64 (n : Int))).run Try.prog w = .ok v w' ∧ v = .slice (some ⟨w.heap.size, 0, none⟩) n n ∧ (∃ cur : Array Value, w'.heap[w.heap.size]? = some (.cells cur 74 (0, 0)) ∧ cur.size = n * 2) ∧ w.grownBy w' none := by
  obtain ⟨i0, hi, hz0, hz1, hz2⟩ := info_parts infoRo
  obtain ⟨w', hrun, r1, r2⟩ := run_make_full (P := Try.prog) w w.heap.size 31 74 i0 _ 2 Try.underlying31 hi hz0 hz1 .i64 .i64 n (by rw [hz2]; omega) (by unfold maxLen; omega) (Nat.le_refl _)
  refine ⟨_, w', hrun, rfl, ?_, r2⟩
  rcases r1.2 with ⟨h, _⟩ | ⟨g, cap', cur, h, hgb, hh, _, _, hsz, _⟩
  · cases h
  · cases h
    exact ⟨cur, hh, by omega⟩

set_option maxHeartbeats 2000000 in
set_option maxRecDepth 8000 in
theorem cToRowS (a : Option Addr) (cap : Nat) (l : List Ro) (w : World) (hR : RoRow w a l) (hn : l.length ≤ 1048576) :
    Calls Try.prog 46 #[.slice a l.length cap] w fun e w' => ∃ g cu, w.heap.size ≤ g ∧ e = .returned (.slice (some ⟨g, 0, none⟩) l.length l.length) ∧ w'.heap[g]? = some (.cells cu 74 (0, 0)) ∧ RoCells cu 0 l ∧ Below w.heap.size w w' := by
  have HR := hid hR
  clear hR
  obtain ⟨n, hnn⟩ : ∃ n, l.length = n := ⟨_, rfl⟩
  have HN := hid hnn
  rw [hnn] at hn ⊢
  clear hnn
  go_enter Try.func46, Try.ntmps46
  go_wp2_with fail
  refine upon_ex (makeRo w n hn) ?_
  rintro _ w1 ⟨rfl, ⟨cur, hcur, hcs⟩, hg⟩
  have HB := hid ((Below.refl w.heap.size w).grown hg (Nat.le_refl _) (by simp))
  have HC := hid hcur
  clear hcur hg
  go_wp2_with fail
  go_loopw [4] (fun k wr => ∃ (i : Nat) (cur : Array Value), k = .int .i64 (i : Int) ∧ i ≤ n ∧ Hid (wr.heap[w.heap.size]? = some (.cells cur 74 (0, 0))) ∧ cur.size = n * 2 ∧ Hid (∀ j (h : j < l.length), j < i → cur[j * 2]? = some (.string l[j].id) ∧ cur[j * 2 + 1]? = some (.int .i64 l[j].til)) ∧ Hid (Below w.heap.size w wr)) (fun k _ => n - (intOf k).toNat)
  case atStart => exact ⟨0, cur, rfl, Nat.zero_le _, HC.out, hcs, fun j _ h => by omega, HB.out⟩
  case round =>
    clear HC HB hcs cur
    obtain ⟨i, cur, rfl, hi, HH, hcs, HA, HB⟩ := hrel
    have hsz : w.heap.size < wr.heap.size := lt_of_heap HH.out
    by_cases hlt : i < n
    · have his : i < l.length := by rw [HN.out]; exact hlt
      obtain ⟨b, o, rfl, hb, c1, c2⟩ := HR.out.below HB.out i his
      have hin : (i : Int) < (n : Int) := by omega
      obtain ⟨x, hx⟩ : ∃ x, l[i].id = x := ⟨_, rfl⟩
      obtain ⟨y, hy⟩ : ∃ y, l[i].til = y := ⟨_, rfl⟩
      have HX := hid hx
      have HY := hid hy
      rw [hx] at c1
      rw [hy] at c2
      clear hx hy
      have C := fun w => cToRow x y w
      go_wp2_with fail
      refine (C _).mono ?_
      rintro e w2 ⟨rfl, hb2⟩
      have HB2 := hid (HB.out.trans (hb2.mono HB.out.size))
      have HH2 := hid ((hb2.block _ (lt_of_heap HH.out)).trans HH.out)
      have hx1 : ∃ v, w2.cell? ⟨w.heap.size, i * 2, none⟩ = some v := by
        rw [Lib.cell_of_heap HH2.out]
        exact ⟨cur[i * 2]'(by omega), Array.getElem?_eq_getElem (by omega)⟩
      have hx2 : ∃ v, w2.cell? ⟨w.heap.size, i * 2 + 1, none⟩ = some v := by
        rw [Lib.cell_of_heap HH2.out]
        exact ⟨cur[i * 2 + 1]'(by omega), Array.getElem?_eq_getElem (by omega)⟩
      obtain ⟨o1, k1⟩ := hx1
      obtain ⟨o2, k2⟩ := hx2
      have f1 : w2.frozen? ⟨w.heap.size, i * 2, none⟩ = false := Lib.frozen_of_heap HH2.out _
      have f2 : w2.frozen? ⟨w.heap.size, i * 2 + 1, none⟩ = false := Lib.frozen_of_heap HH2.out _
      have HS2 := hid (show ((w2.setCell ⟨w.heap.size, i * 2, none⟩ (.string x)).setCell ⟨w.heap.size, i * 2 + 1, none⟩ (.int .i64 y)).heap[w.heap.size]? = some (.cells ((cur.setIfInBounds (i * 2) (.string x)).setIfInBounds (i * 2 + 1) (.int .i64 y)) 74 (0, 0)) by
        simp [World.setCell, Array.getElem?_modify, HH2.out])
      have HA2 := hid (show ∀ j (h : j < l.length), j < i + 1 → ((cur.setIfInBounds (i * 2) (.string x)).setIfInBounds (i * 2 + 1) (.int .i64 y))[j * 2]? = some (.string l[j].id) ∧ ((cur.setIfInBounds (i * 2) (.string x)).setIfInBounds (i * 2 + 1) (.int .i64 y))[j * 2 + 1]? = some (.int .i64 l[j].til) from fun j h hj => by
        by_cases e : i = j
        · subst e
          rw [HX.out, HY.out]
          simp [Array.getElem?_setIfInBounds, hcs]
          omega
        · have := HA.out j h (by omega)
          simp only [Array.getElem?_setIfInBounds]
          rw [if_neg (by omega), if_neg (by omega), if_neg (by omega), if_neg (by omega)]
          exact this)
      have HB3 := hid ((HB2.out.setCell (p := ⟨w.heap.size, i * 2, none⟩) (Nat.le_refl _) (.string x)).setCell (p := ⟨w.heap.size, i * 2 + 1, none⟩) (Nat.le_refl _) (.int .i64 y))
      have HC2 := hid (show ((cur.setIfInBounds (i * 2) (.string x)).setIfInBounds (i * 2 + 1) (.int .i64 y)).size = n * 2 by simp [hcs])
      clear hb2 C c1 c2
      go_wp2_with fail
      go_roundw
      case rel => exact ⟨i + 1, _, by go_num, by omega, HS2.out, HC2.out, HA2.out, HB3.out⟩
      case measure => simp [intOf]; omega
    · have hie : i = n := by omega
      subst hie
      go_wp2_with fail
      go_ret
      exact ⟨w.heap.size, cur, Nat.le_refl _, rfl, HH.out, fun j hj => by rw [Nat.zero_add]; exact HA.out j hj (by rw [← HN.out]; exact hj), HB.out⟩

theorem u_heap3 (w : World) (o1 o2 o3 : Obj) : (((w.alloc o1).alloc o2).alloc o3).heap[w.heap.size]? = some o1 ∧ (((w.alloc o1).alloc o2).alloc o3).heap[w.heap.size + 1]? = some o2 ∧ (((w.alloc o1).alloc o2).alloc o3).heap[w.heap.size + 2]? = some o3 := by
  have h1 := heap_alloc_new w o1
  have h2 := heap_alloc_new (w.alloc o1) o2
  have h3 := heap_alloc_new ((w.alloc o1).alloc o2) o3
  rw [World.size_alloc] at h2
  rw [World.size_alloc, World.size_alloc] at h3
  exact ⟨(Below.heap_alloc _ _ _ (by simp; omega)).trans ((Below.heap_alloc _ _ _ (by simp)).trans h1), (Below.heap_alloc _ _ _ (by simp)).trans h2, h3⟩

theorem u_box2f {w : World} {g : Nat} {x y : Value} {T : TypeId} (h : w.heap[g]? = some (.cells #[x, y] T (0, 0))) : (w.cell? ⟨g, 0, none⟩ = some x ∧ w.cell? ⟨g, 1, none⟩ = some y) ∧ w.frozen? ⟨g, 0, none⟩ = false ∧ w.frozen? ⟨g, 1, none⟩ = false :=
  ⟨u_box2c h, Lib.frozen_of_heap h _, Lib.frozen_of_heap h _⟩

set_option maxHeartbeats 2000000 in
theorem cToTable (t : Tb) (a : Option Addr) (cap : Nat) (w : World) (hR : RoRow w a t.rows) (hn : t.rows.length ≤ 1048576) :
    Calls Try.prog 24 #[tbV t a cap] w fun e w' => ∃ g cu, w.heap.size ≤ g ∧ e = .returned (tbV t (some ⟨g, 0, none⟩) t.rows.length) ∧ w'.heap[g]? = some (.cells cu 74 (0, 0)) ∧ RoCells cu 0 t.rows ∧ Below w.heap.size w w' := by
  obtain ⟨m, l⟩ := t
  simp only at hR hn
  simp only [tbV]
  obtain ⟨b1, b2, b3⟩ := u_heap3 w (.cells #[.int .i64 m, .slice a l.length cap] 25) (.cells #[.int .i64 0, .slice none 0 0] 33) (.cells #[.int .i64 m, .slice none 0 0] 33)
  have HB0 := hid ((((Below.refl w.heap.size w).alloc (Nat.le_refl _) (.cells #[.int .i64 m, .slice a l.length cap] 25)).alloc (by simp) (.cells #[.int .i64 0, .slice none 0 0] 33)).alloc (by simp; omega) (.cells #[.int .i64 m, .slice none 0 0] 33))
  have HR := hid (hR.below HB0.out)
  have C := fun (w : World) (hR : RoRow w a l) => cToRowS a cap l w hR hn
  have H1 := hid b1
  have H2 := hid b2
  have H3 := hid b3
  clear b1 b2 b3 hR
  obtain ⟨n, hn⟩ : ∃ n, l.length = n := ⟨_, rfl⟩
  rw [hn] at C HR HB0 H1 H2 H3 ⊢
  clear hn
  go_enter Try.func24, Try.ntmps24
  go_wp2_with fail
  refine (C _ HR.out).mono ?_
  rintro e w1 ⟨g, cu, hg, rfl, hG1, hR1, hb1⟩
  have HR1 := hid hR1
  have HG1 := hid hG1
  have HB1 := hid (bb HB0.out hb1)
  obtain ⟨⟨x0, x1⟩, _⟩ := u_box2f (u_blk_below H1.out hb1)
  obtain ⟨⟨y0, y1⟩, yf0, yf1⟩ := u_box2f (u_blk_below H2.out hb1)
  obtain ⟨⟨z0, z1⟩, zf0, zf1⟩ := u_box2f (u_blk_below H3.out hb1)
  have hgw : w.heap.size + 3 ≤ g := by simpa using hg
  clear hR1 hG1 hb1 HB0 HR H1 H2 H3 C hg
  go_wp2_with fail
  refine bodyPost_ret (v := .agg #[.int .i64 m, .slice (some ⟨g, 0, none⟩) n n]) (by simp [results, Try.results24, go_sem, x0, x1, y0, y1, z0, z1]) rfl ⟨g, cu, by omega, rfl, ?_, HR1.out, ?_⟩
  · iterate 3 refine (Below.heap_setCell _ _ _ _ (by simp; omega)).trans ?_
    exact HG1.out
  · iterate 3 refine Below.setCell ?_ (by simp; try omega) _
    exact HB1.out

set_option maxHeartbeats 2000000 in
theorem cEqRowS (a c : Option Addr) (cap cap2 : Nat) (l : List Ro) (w : World) (hR : RoRow w a l) (hT : RoRow w c l) (hz : RoSz 1048576 l) (hn : l.length ≤ 1048576) :
    Calls Try.prog 53 #[.slice a l.length cap, .slice c l.length cap2] w fun e w' => e = .returned (.bool true) ∧ Below w.heap.size w w' := by
  have HR := hid hR
  have HT := hid hT
  have HZ := hid hz
  clear hR hT hz
  obtain ⟨n, hnn⟩ : ∃ n, l.length = n := ⟨_, rfl⟩
  have HN := hid hnn
  rw [hnn] at hn ⊢
  clear hnn
  go_enter Try.func53, Try.ntmps53
  go_wp2
  go_loopw [5] (fun k wr => ∃ i : Nat, k = .int .i64 (i : Int) ∧ i ≤ n ∧ Hid (Below w.heap.size w wr)) (fun k _ => n - (intOf k).toNat)
  case atStart => exact ⟨0, rfl, Nat.zero_le _, Below.refl _ _⟩
  case round =>
    obtain ⟨i, rfl, hi, HB⟩ := hrel
    by_cases hlt : i < n
    · have his : i < l.length := by rw [HN.out]; exact hlt
      have hin : (i : Int) < (n : Int) := by omega
      obtain ⟨b, o, rfl, hb, c1, c2⟩ := HR.out.below HB.out i his
      obtain ⟨b2, o2, rfl, hb', k1, k2⟩ := HT.out.below HB.out i his
      have z1 := HZ.out _ (List.getElem_mem his)
      have C := fun w => cEqRow l[i].id l[i].til w z1
      generalize l[i].id = x at *
      generalize l[i].til = y at *
      clear z1
      have HNB := hid (bw_any wr)
      obtain ⟨d1, d2⟩ := pair_bw hb c1 c2
      obtain ⟨j1, j2⟩ := pair_bw hb' k1 k2
      clear c1 c2 k1 k2
      go_wp2_with fail
      haveI := HNB.out
      refine wp_region_below (by kernel_rfl) (by kernel_rfl) (Below.refl wr.heap.size wr) ?_
      repeat (go_big_quiet_step ((go_at_call 70; exact calls_bw _ (C _))))
      refine wpQuiet_nil ?_
      intro wq hw'
      obtain ⟨⟨wz, hwq⟩, hw''⟩ := hw'
      subst hw''
      have HB2 := hid (bb HB.out hwq)
      clear C d1 d2 j1 j2
      go_wp2_with fail
      go_roundw
      case rel => exact ⟨i + 1, by go_num, by omega, HB2.out⟩
      case measure => simp [intOf]; omega
    · have hie : i = n := by omega
      subst hie
      go_wp2_with fail
      go_ret
      exact ⟨rfl, HB.out⟩

set_option maxHeartbeats 2000000 in
theorem cEqTable (t : Tb) (a b : Option Addr) (ca cb : Nat) (w : World) (hR : RoRow w a t.rows) (hS : RoRow w b t.rows) (hz : RoSz 1048576 t.rows) (hn : t.rows.length ≤ 1048576) :
    Calls Try.prog 30 #[tbV t a ca, tbV t b cb] w fun e w' => e = .returned (.bool true) ∧ Below w.heap.size w w' := by
  have CE := hid (fun wx (h : Below w.heap.size w wx) => cEqRowS a b ca cb t.rows wx (hR.below h) (hS.below h) hz hn)
  obtain ⟨m, l⟩ := t
  simp only at CE hn
  simp only [tbV]
  clear hR hS hz
  generalize l.length = n at *
  have HB0 := hid (((Below.refl w.heap.size w).alloc (Nat.le_refl _) (.cells #[.int .i64 m, .slice a n ca] 33)).alloc (by simp) (.cells #[.int .i64 m, .slice b n cb] 33))
  have e4 : (m != m) = false := by simp
  go_enter Try.func30, Try.ntmps30
  go_wp2_with fail
  refine (CE.out _ HB0.out).mono ?_
  rintro e w1 ⟨rfl, hb1⟩
  have HB1 := hid (bb HB0.out hb1)
  clear hb1
  go_wp2_with fail
  go_ret
  exact ⟨rfl, HB1.out⟩

end Go.Proofs.Ytdgppdjjmpjgkaa
