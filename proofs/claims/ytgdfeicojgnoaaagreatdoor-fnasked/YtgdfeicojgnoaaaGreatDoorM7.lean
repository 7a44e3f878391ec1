/- Contracts of what the exact laws call on tables: sized, copied, compared. Rows that can be read, append of them; rows of a table among them. Contracts of the specification's l16Copy, l16Enter, Entered, l16Remove, Removed. -/
import Derived.Test.YtgdfeicojgnoaaaGreatDoorM5
import Derived.Maps.AppendAt
import Derived.Deep.Upon
import Derived.Deep.RegionHeld3
namespace Go.Proofs.YtgdfeicojgnoaaaGreatDoor
open Go.RowKit
set_option linter.unusedVariables false
set_option linter.unusedSimpArgs false

set_option maxHeartbeats 1000000 in
theorem cSzRow (x : ByteArray) (y : Int) (L : Nat) (w : World) (hL : L ≤ 1048576) (hx : x.size ≤ maxLen) :
    Calls Tryz.prog 122 #[.agg #[.string x, .int .i64 y], .int .i64 L] w fun e w' => ∃ r : Int, e = .returned (.int .i64 r) ∧ (r = -1 ∨ 0 ≤ r ∧ r = L - x.size) ∧ Below w.heap.size w w' := by
  unfold maxLen at hx
  by_cases h1 : (L : Int) - x.size < 0
  · go_enter Tryz.func122, Tryz.ntmps122
    go_wp2
    go_ret
    exact ⟨-1, rfl, .inl rfl, (Below.refl _ _).alloc (Nat.le_refl _) _⟩
  · go_enter Tryz.func122, Tryz.ntmps122
    go_wp2
    go_ret
    exact ⟨(L : Int) - x.size, rfl, .inr ⟨by omega, rfl⟩, (Below.refl _ _).alloc (Nat.le_refl _) _⟩

set_option maxHeartbeats 2000000 in
theorem cSzRowS (a : Option Addr) (cap : Nat) (l : List Ro) (L : Nat) (w : World) (hR : RoRow w a l) (hz : RoSz maxLen l) (hn : l.length ≤ maxLen) (hL : L ≤ 1048576) :
    Calls Tryz.prog 85 #[.slice a l.length cap, .int .i64 L] w fun e w' => ∃ r : Int, e = .returned (.int .i64 r) ∧ (r = -1 ∨ 0 ≤ r ∧ r ≤ L ∧ l.length ≤ L ∧ RoSz L l) ∧ Below w.heap.size w w' := by
  have HR := hid hR
  have HZ := hid hz
  clear hR hz
  unfold maxLen at hn
  obtain ⟨n, hnn⟩ : ∃ n, l.length = n := ⟨_, rfl⟩
  have HN := hid hnn
  rw [hnn] at hn ⊢
  clear hnn
  by_cases h1 : (L : Int) - n < 0
  · go_enter Tryz.func85, Tryz.ntmps85
    go_wp2
    go_ret
    exact ⟨-1, rfl, .inl rfl, Below.refl _ _⟩
  · go_enter Tryz.func85, Tryz.ntmps85
    go_wp2
    go_loopw [1, 5] (fun v k wr => ∃ (i M : Nat), k = .int .i64 (i : Int) ∧ i ≤ n ∧ v = .int .i64 (M : Int) ∧ M + n ≤ L ∧ Hid (RoSz L (l.take i)) ∧ Hid (Below w.heap.size w wr)) (fun _ k _ => n - (intOf k).toNat)
    case atStart => exact ⟨0, L - n, rfl, Nat.zero_le _, by go_num, by omega, fun s hs => by simp at hs, Below.refl _ _⟩
    case round =>
      obtain ⟨i, M, rfl, hi, rfl, hM, HA, HB⟩ := hrel
      by_cases hlt : i < n
      · have his : i < l.length := by rw [HN.out]; exact hlt
        obtain ⟨b, o, rfl, hb, c1, c2⟩ := HR.out.below HB.out i his
        have hin : (i : Int) < (n : Int) := by omega
        have HT := hid (take_snocN his)
        have z1 := HZ.out _ (List.getElem_mem his)
        have C := fun w => cSzRow l[i].id l[i].til M w (by omega) z1
        have HE : Hid (∀ (x : ByteArray), l[i].id = x → x.size ≤ L → RoSz L (l.take (i + 1))) := by
          intro x hx h1
          rw [HT.out]
          intro s hs
          rcases List.mem_append.1 hs with h | h
          · exact HA.out s h
          · rw [List.mem_singleton] at h
            subst h
            rw [hx]
            exact h1
        obtain ⟨x, hx⟩ : ∃ x, l[i].id = x := ⟨_, rfl⟩
        have HX := hid hx
        rw [hx] at c1 C
        generalize l[i].til = y at *
        clear hx z1
        go_wp2_with fail
        refine (C _).mono ?_
        rintro e w2 ⟨r, rfl, hr, hb2⟩
        have HB2 := hid (bb HB.out hb2)
        clear hb2 C
        rcases hr with rfl | ⟨h0, hr⟩
        · go_wp2_with fail
          go_ret
          exact ⟨-1, rfl, .inl rfl, HB2.out⟩
        · obtain ⟨R, rfl⟩ : ∃ R : Nat, r = R := ⟨r.toNat, by omega⟩
          go_wp2_with fail
          go_roundw
          case rel => exact ⟨i + 1, R, by go_num, by omega, by first | rfl | rw [← hr], by omega, HE.out x HX.out (by omega), HB2.out⟩
          case measure => simp [intOf]; omega
      · have hie : i = n := by omega
        subst hie
        have h2 := HA.out
        rw [List.take_of_length_le (by rw [HN.out]; exact Nat.le_refl _)] at h2
        have H2 := hid h2
        clear h2
        go_wp2_with fail
        go_ret
        exact ⟨M, rfl, .inr ⟨by omega, by omega, by omega, H2.out⟩, HB.out⟩

theorem cSzTable (t : Tb) (a : Option Addr) (cap : Nat) (w : World) (hR : RoRow w a t.rows) (hz : RoSz maxLen t.rows) (hn : t.rows.length ≤ maxLen) :
    Calls Tryz.prog 50 #[tbV t a cap, .int .i64 1048576] w fun e w' => ∃ r : Int, e = .returned (.int .i64 r) ∧ (r = -1 ∨ 0 ≤ r ∧ t.rows.length ≤ 1048576 ∧ RoSz 1048576 t.rows) ∧ Below w.heap.size w w' := by
  have C := hid (fun wx (h : Below w.heap.size w wx) => cSzRowS a cap t.rows 1048576 wx (hR.below h) hz hn (Nat.le_refl _))
  have HB0 := hid ((Below.refl w.heap.size w).alloc (Nat.le_refl _) (.cells #[.int .i64 t.most, .slice a t.rows.length cap] 45))
  have HF : Hid (∀ r : Int, (r = -1 ∨ 0 ≤ r ∧ r ≤ (1048576 : Nat) ∧ t.rows.length ≤ 1048576 ∧ RoSz 1048576 t.rows) → (r = -1 ∨ 0 ≤ r ∧ t.rows.length ≤ 1048576 ∧ RoSz 1048576 t.rows)) := fun r h => h.imp id fun ⟨h1, _, h3, h4⟩ => ⟨h1, h3, h4⟩
  obtain ⟨F, hF⟩ : ∃ F : Prop, (t.rows.length ≤ 1048576 ∧ RoSz 1048576 t.rows) = F := ⟨_, rfl⟩
  unfold tbV
  rw [hF] at HF C ⊢
  generalize t.rows.length = n at *
  generalize t.most = m at *
  clear hR hz hF
  go_enter Tryz.func50, Tryz.ntmps50
  go_wp2_with fail
  refine (C.out _ HB0.out).mono ?_
  rintro e w1 ⟨r, rfl, hr, hb1⟩
  have HB1 := hid (bb HB0.out hb1)
  have HR2 := hid (HF.out r hr)
  clear hb1 hr C HF
  by_cases h0 : r < 0
  · go_wp2_with fail
    go_ret
    exact ⟨-1, rfl, .inl rfl, HB1.out⟩
  · go_wp2_with fail
    go_ret
    exact ⟨r, rfl, HR2.out, HB1.out⟩

theorem cToRow (x : ByteArray) (y : Int) (w : World) :
    Calls Tryz.prog 124 #[.agg #[.string x, .int .i64 y]] w fun e w' => e = .returned (.agg #[.string x, .int .i64 y]) ∧ Below w.heap.size w w' := by
  go_enter Tryz.func124, Tryz.ntmps124
  go_wp2
  refine bodyPost_ret (v := .agg #[.string x, .int .i64 y]) (by simp [results, Tryz.results124, go_sem]) rfl ⟨rfl, ?_⟩
  repeat first | exact Below.refl _ _ | refine Below.setCell ?_ (by simp; try omega) _ | refine Below.alloc ?_ (by simp; try omega) _

theorem cEqRow (x : ByteArray) (y : Int) (w : World) (hx : x.size ≤ 1048576) :
    Calls Tryz.prog 126 #[.agg #[.string x, .int .i64 y], .agg #[.string x, .int .i64 y]] w fun e w' => e = .returned (.bool true) ∧ Below w.heap.size w w' := by
  go_enter Tryz.func126, Tryz.ntmps126
  go_wp2
  go_ret
  refine ⟨rfl, ?_⟩
  repeat first | exact Below.refl _ _ | refine Below.setCell ?_ (by simp; try omega) _ | refine Below.alloc ?_ (by simp; try omega) _

theorem infoRo : (Tryz.prog.info? 83).map (fun i => (i.zero, i.size, i.bytes)) = some (some (.agg #[.string ⟨#[]⟩, .int .i64 0]), 2, 24) := by kernel_rfl

theorem makeRo (w : World) (n : Nat) (hn : n ≤ 1048576) : ∃ v w', (Instr.makeSlice 25 (.int .i64 (n : Int)) (.int .i64 (n : Int))).run Tryz.prog w = .ok v w' ∧ v = .slice (some ⟨w.heap.size, 0, none⟩) n n ∧ (∃ cur : Array Value, w'.heap[w.heap.size]? = some (.cells cur 83 (0, 0)) ∧ cur.size = n * 2) ∧ w.grownBy w' none := by
  obtain ⟨i0, hi, hz0, hz1, hz2⟩ := info_parts infoRo
  obtain ⟨w', hrun, r1, r2⟩ := run_make_full (P := Tryz.prog) w w.heap.size 25 83 i0 _ 2 Tryz.underlying25 hi hz0 hz1 .i64 .i64 n (by rw [hz2]; omega) (by unfold maxLen; omega) (Nat.le_refl _)
  refine ⟨_, w', hrun, rfl, ?_, r2⟩
  rcases r1.2 with ⟨h, _⟩ | ⟨g, cap', cur, h, hgb, hh, _, _, hsz, _⟩
  · cases h
  · cases h
    exact ⟨cur, hh, by omega⟩

set_option maxHeartbeats 2000000 in
set_option maxRecDepth 8000 in
theorem cToRowS (a : Option Addr) (cap : Nat) (l : List Ro) (w : World) (hR : RoRow w a l) (hn : l.length ≤ 1048576) :
    Calls Tryz.prog 87 #[.slice a l.length cap] w fun e w' => ∃ g cu, w.heap.size ≤ g ∧ e = .returned (.slice (some ⟨g, 0, none⟩) l.length l.length) ∧ w'.heap[g]? = some (.cells cu 83 (0, 0)) ∧ RoCells cu 0 l ∧ Below w.heap.size w w' := by
  have HR := hid hR
  clear hR
  obtain ⟨n, hnn⟩ : ∃ n, l.length = n := ⟨_, rfl⟩
  have HN := hid hnn
  rw [hnn] at hn ⊢
  clear hnn
  go_enter Tryz.func87, Tryz.ntmps87
  go_wp2_with fail
  refine upon_ex (makeRo w n hn) ?_
  rintro _ w1 ⟨rfl, ⟨cur, hcur, hcs⟩, hg⟩
  have HB := hid ((Below.refl w.heap.size w).grown hg (Nat.le_refl _) (by simp))
  have HC := hid hcur
  clear hcur hg
  go_wp2_with fail
  go_loopw [4] (fun k wr => ∃ (i : Nat) (cur : Array Value), k = .int .i64 (i : Int) ∧ i ≤ n ∧ Hid (wr.heap[w.heap.size]? = some (.cells cur 83 (0, 0))) ∧ cur.size = n * 2 ∧ Hid (∀ j (h : j < l.length), j < i → cur[j * 2]? = some (.string l[j].id) ∧ cur[j * 2 + 1]? = some (.int .i64 l[j].til)) ∧ Hid (Below w.heap.size w wr)) (fun k _ => n - (intOf k).toNat)
  case atStart => exact ⟨0, cur, rfl, Nat.zero_le _, HC.out, hcs, fun j _ h => by omega, HB.out⟩
  case round =>
    clear HC HB hcs cur
    obtain ⟨i, cur, rfl, hi, HH, hcs, HA, HB⟩ := hrel
    have hsz : w.heap.size < wr.heap.size := lt_of_heap HH.out
    by_cases hlt : i < n
    · have his : i < l.length := by rw [HN.out]; exact hlt
      obtain ⟨b, o, rfl, hb, c1, c2⟩ := HR.out.below HB.out i his
      have hin : (i : Int) < (n : Int) := by omega
      obtain ⟨x, hx⟩ : ∃ x, l[i].id = x := ⟨_, rfl⟩
      obtain ⟨y, hy⟩ : ∃ y, l[i].til = y := ⟨_, rfl⟩
      have HX := hid hx
      have HY := hid hy
      rw [hx] at c1
      rw [hy] at c2
      clear hx hy
      have C := fun w => cToRow x y w
      go_wp2_with fail
      refine (C _).mono ?_
      rintro e w2 ⟨rfl, hb2⟩
      have HB2 := hid (HB.out.trans (hb2.mono HB.out.size))
      have HH2 := hid ((hb2.block _ (lt_of_heap HH.out)).trans HH.out)
      have hx1 : ∃ v, w2.cell? ⟨w.heap.size, i * 2, none⟩ = some v := by
        rw [Lib.cell_of_heap HH2.out]
        exact ⟨cur[i * 2]'(by omega), Array.getElem?_eq_getElem (by omega)⟩
      have hx2 : ∃ v, w2.cell? ⟨w.heap.size, i * 2 + 1, none⟩ = some v := by
        rw [Lib.cell_of_heap HH2.out]
        exact ⟨cur[i * 2 + 1]'(by omega), Array.getElem?_eq_getElem (by omega)⟩
      obtain ⟨o1, k1⟩ := hx1
      obtain ⟨o2, k2⟩ := hx2
      have f1 : w2.frozen? ⟨w.heap.size, i * 2, none⟩ = false := Lib.frozen_of_heap HH2.out _
      have f2 : w2.frozen? ⟨w.heap.size, i * 2 + 1, none⟩ = false := Lib.frozen_of_heap HH2.out _
      have HS2 := hid (show ((w2.setCell ⟨w.heap.size, i * 2, none⟩ (.string x)).setCell ⟨w.heap.size, i * 2 + 1, none⟩ (.int .i64 y)).heap[w.heap.size]? = some (.cells ((cur.setIfInBounds (i * 2) (.string x)).setIfInBounds (i * 2 + 1) (.int .i64 y)) 83 (0, 0)) by
        simp [World.setCell, Array.getElem?_modify, HH2.out])
      have HA2 := hid (show ∀ j (h : j < l.length), j < i + 1 → ((cur.setIfInBounds (i * 2) (.string x)).setIfInBounds (i * 2 + 1) (.int .i64 y))[j * 2]? = some (.string l[j].id) ∧ ((cur.setIfInBounds (i * 2) (.string x)).setIfInBounds (i * 2 + 1) (.int .i64 y))[j * 2 + 1]? = some (.int .i64 l[j].til) from fun j h hj => by
        by_cases e : i = j
        · subst e
          rw [HX.out, HY.out]
          simp [Array.getElem?_setIfInBounds, hcs]
          omega
        · have := HA.out j h (by omega)
          simp only [Array.getElem?_setIfInBounds]
          rw [if_neg (by omega), if_neg (by omega), if_neg (by omega), if_neg (by omega)]
          exact this)
      have HB3 := hid ((HB2.out.setCell (p := ⟨w.heap.size, i * 2, none⟩) (Nat.le_refl _) (.string x)).setCell (p := ⟨w.heap.size, i * 2 + 1, none⟩) (Nat.le_refl _) (.int .i64 y))
      have HC2 := hid (show ((cur.setIfInBounds (i * 2) (.string x)).setIfInBounds (i * 2 + 1) (.int .i64 y)).size = n * 2 by simp [hcs])
      clear hb2 C c1 c2
      go_wp2_with fail
      go_roundw
      case rel => exact ⟨i + 1, _, by go_num, by omega, HS2.out, HC2.out, HA2.out, HB3.out⟩
      case measure => simp [intOf]; omega
    · have hie : i = n := by omega
      subst hie
      go_wp2_with fail
      go_ret
      exact ⟨w.heap.size, cur, Nat.le_refl _, rfl, HH.out, fun j hj => by rw [Nat.zero_add]; exact HA.out j hj (by rw [← HN.out]; exact hj), HB.out⟩

theorem u_heap3 (w : World) (o1 o2 o3 : Obj) : (((w.alloc o1).alloc o2).alloc o3).heap[w.heap.size]? = some o1 ∧ (((w.alloc o1).alloc o2).alloc o3).heap[w.heap.size + 1]? = some o2 ∧ (((w.alloc o1).alloc o2).alloc o3).heap[w.heap.size + 2]? = some o3 := by
  have h1 := heap_alloc_new w o1
  have h2 := heap_alloc_new (w.alloc o1) o2
  have h3 := heap_alloc_new ((w.alloc o1).alloc o2) o3
  rw [World.size_alloc] at h2
  rw [World.size_alloc, World.size_alloc] at h3
  exact ⟨(Below.heap_alloc _ _ _ (by simp; omega)).trans ((Below.heap_alloc _ _ _ (by simp)).trans h1), (Below.heap_alloc _ _ _ (by simp)).trans h2, h3⟩

theorem u_box2f {w : World} {g : Nat} {x y : Value} {T : TypeId} (h : w.heap[g]? = some (.cells #[x, y] T (0, 0))) : (w.cell? ⟨g, 0, none⟩ = some x ∧ w.cell? ⟨g, 1, none⟩ = some y) ∧ w.frozen? ⟨g, 0, none⟩ = false ∧ w.frozen? ⟨g, 1, none⟩ = false :=
  ⟨u_box2c h, Lib.frozen_of_heap h _, Lib.frozen_of_heap h _⟩

set_option maxHeartbeats 2000000 in
theorem cToTable (t : Tb) (a : Option Addr) (cap : Nat) (w : World) (hR : RoRow w a t.rows) (hn : t.rows.length ≤ 1048576) :
    Calls Tryz.prog 52 #[tbV t a cap] w fun e w' => ∃ g cu, w.heap.size ≤ g ∧ e = .returned (tbV t (some ⟨g, 0, none⟩) t.rows.length) ∧ w'.heap[g]? = some (.cells cu 83 (0, 0)) ∧ RoCells cu 0 t.rows ∧ Below w.heap.size w w' := by
  obtain ⟨m, l⟩ := t
  simp only at hR hn
  simp only [tbV]
  obtain ⟨b1, b2, b3⟩ := u_heap3 w (.cells #[.int .i64 m, .slice a l.length cap] 45) (.cells #[.int .i64 0, .slice none 0 0] 27) (.cells #[.int .i64 m, .slice none 0 0] 27)
  have HB0 := hid ((((Below.refl w.heap.size w).alloc (Nat.le_refl _) (.cells #[.int .i64 m, .slice a l.length cap] 45)).alloc (by simp) (.cells #[.int .i64 0, .slice none 0 0] 27)).alloc (by simp; omega) (.cells #[.int .i64 m, .slice none 0 0] 27))
  have HR := hid (hR.below HB0.out)
  have C := fun (w : World) (hR : RoRow w a l) => cToRowS a cap l w hR hn
  have H1 := hid b1
  have H2 := hid b2
  have H3 := hid b3
  clear b1 b2 b3 hR
  obtain ⟨n, hn⟩ : ∃ n, l.length = n := ⟨_, rfl⟩
  rw [hn] at C HR HB0 H1 H2 H3 ⊢
  clear hn
  go_enter Tryz.func52, Tryz.ntmps52
  go_wp2_with fail
  refine (C _ HR.out).mono ?_
  rintro e w1 ⟨g, cu, hg, rfl, hG1, hR1, hb1⟩
  have HR1 := hid hR1
  have HG1 := hid hG1
  have HB1 := hid (bb HB0.out hb1)
  obtain ⟨⟨x0, x1⟩, _⟩ := u_box2f (u_blk_below H1.out hb1)
  obtain ⟨⟨y0, y1⟩, yf0, yf1⟩ := u_box2f (u_blk_below H2.out hb1)
  obtain ⟨⟨z0, z1⟩, zf0, zf1⟩ := u_box2f (u_blk_below H3.out hb1)
  have hgw : w.heap.size + 3 ≤ g := by simpa using hg
  clear hR1 hG1 hb1 HB0 HR H1 H2 H3 C hg
  go_wp2_with fail
  refine bodyPost_ret (v := .agg #[.int .i64 m, .slice (some ⟨g, 0, none⟩) n n]) (by simp [results, Tryz.results52, go_sem, x0, x1, y0, y1, z0, z1]) rfl ⟨g, cu, by omega, rfl, ?_, HR1.out, ?_⟩
  · iterate 3 refine (Below.heap_setCell _ _ _ _ (by simp; omega)).trans ?_
    exact HG1.out
  · iterate 3 refine Below.setCell ?_ (by simp; try omega) _
    exact HB1.out

set_option maxHeartbeats 2000000 in
theorem cEqRowS (a c : Option Addr) (cap cap2 : Nat) (l : List Ro) (w : World) (hR : RoRow w a l) (hT : RoRow w c l) (hz : RoSz 1048576 l) (hn : l.length ≤ 1048576) :
    Calls Tryz.prog 89 #[.slice a l.length cap, .slice c l.length cap2] w fun e w' => e = .returned (.bool true) ∧ Below w.heap.size w w' := by
  have HR := hid hR
  have HT := hid hT
  have HZ := hid hz
  clear hR hT hz
  obtain ⟨n, hnn⟩ : ∃ n, l.length = n := ⟨_, rfl⟩
  have HN := hid hnn
  rw [hnn] at hn ⊢
  clear hnn
  go_enter Tryz.func89, Tryz.ntmps89
  go_wp2
  go_loopw [5] (fun k wr => ∃ i : Nat, k = .int .i64 (i : Int) ∧ i ≤ n ∧ Hid (Below w.heap.size w wr)) (fun k _ => n - (intOf k).toNat)
  case atStart => exact ⟨0, rfl, Nat.zero_le _, Below.refl _ _⟩
  case round =>
    obtain ⟨i, rfl, hi, HB⟩ := hrel
    by_cases hlt : i < n
    · have his : i < l.length := by rw [HN.out]; exact hlt
      have hin : (i : Int) < (n : Int) := by omega
      obtain ⟨b, o, rfl, hb, c1, c2⟩ := HR.out.below HB.out i his
      obtain ⟨b2, o2, rfl, hb', k1, k2⟩ := HT.out.below HB.out i his
      have z1 := HZ.out _ (List.getElem_mem his)
      have C := fun w => cEqRow l[i].id l[i].til w z1
      generalize l[i].id = x at *
      generalize l[i].til = y at *
      clear z1
      have HNB := hid (bw_any wr)
      obtain ⟨d1, d2⟩ := pair_bw hb c1 c2
      obtain ⟨j1, j2⟩ := pair_bw hb' k1 k2
      clear c1 c2 k1 k2
      go_wp2_with fail
      haveI := HNB.out
      refine wp_region_below (by kernel_rfl) (by kernel_rfl) (Below.refl wr.heap.size wr) ?_
      repeat (go_big_quiet_step ((go_at_call 126; exact calls_bw _ (C _))))
      refine wpQuiet_nil ?_
      intro wq hw'
      obtain ⟨⟨wz, hwq⟩, hw''⟩ := hw'
      subst hw''
      have HB2 := hid (bb HB.out hwq)
      clear C d1 d2 j1 j2
      go_wp2_with fail
      go_roundw
      case rel => exact ⟨i + 1, by go_num, by omega, HB2.out⟩
      case measure => simp [intOf]; omega
    · have hie : i = n := by omega
      subst hie
      go_wp2_with fail
      go_ret
      exact ⟨rfl, HB.out⟩

set_option maxHeartbeats 2000000 in
theorem cEqTable (t : Tb) (a b : Option Addr) (ca cb : Nat) (w : World) (hR : RoRow w a t.rows) (hS : RoRow w b t.rows) (hz : RoSz 1048576 t.rows) (hn : t.rows.length ≤ 1048576) :
    Calls Tryz.prog 54 #[tbV t a ca, tbV t b cb] w fun e w' => e = .returned (.bool true) ∧ Below w.heap.size w w' := by
  have CE := hid (fun wx (h : Below w.heap.size w wx) => cEqRowS a b ca cb t.rows wx (hR.below h) (hS.below h) hz hn)
  obtain ⟨m, l⟩ := t
  simp only at CE hn
  simp only [tbV]
  clear hR hS hz
  generalize l.length = n at *
  have HB0 := hid (((Below.refl w.heap.size w).alloc (Nat.le_refl _) (.cells #[.int .i64 m, .slice a n ca] 27)).alloc (by simp) (.cells #[.int .i64 m, .slice b n cb] 27))
  have e4 : (m != m) = false := by simp
  go_enter Tryz.func54, Tryz.ntmps54
  go_wp2_with fail
  refine (CE.out _ HB0.out).mono ?_
  rintro e w1 ⟨rfl, hb1⟩
  have HB1 := hid (bb HB0.out hb1)
  clear hb1
  go_wp2_with fail
  go_ret
  exact ⟨rfl, HB1.out⟩

end Go.Proofs.YtgdfeicojgnoaaaGreatDoor

namespace Go.Proofs.YtgdfeicojgnoaaaGreatDoor
open Go.RowKit
set_option linter.unusedVariables false
set_option linter.unusedSimpArgs false

theorem u_add_plainW (b o j : Nat) : (⟨b, o, none⟩ : Addr).add j = ⟨b, o + j, none⟩ := by unfold Addr.add; split <;> simp_all

theorem u_cell_grownR {w w' : World} {row : Option Nat} (h : w.grownBy w' row) {b o : Nat} {v : Value} (hc : w.cell? ⟨b, o, none⟩ = some v) (hb : b < w.heap.size) (hr : row ≠ some b) : w'.cell? ⟨b, o, none⟩ = some v :=
  (World.cell?_of_block (a := ⟨b, o, none⟩) (h.block b hb (fun e => hr e.symm))).trans hc

/-- Cells from there on. -/
def u_CellsAt (w : World) (b o : Nat) (cs : List Value) : Prop := ∀ j u, cs[j]? = some u → w.cell? ⟨b, o + j, none⟩ = some u

/-- A row that can be read: its cells, s for each of n. -/
structure u_Rd (w : World) (s : Nat) (v : Value) (n : Nat) (cs : List Value) : Prop where
  at_ : ∃ b o c, v = .slice (some ⟨b, o, none⟩) n c ∧ b < w.heap.size ∧ n ≤ c ∧ u_CellsAt w b o cs
  len : cs.length = n * s

theorem u_Rd.below {w w' : World} {s n : Nat} {v : Value} {cs : List Value} (h : u_Rd w s v n cs) (hb : Below w.heap.size w w') : u_Rd w' s v n cs := by
  obtain ⟨b, o, c, e1, e2, e3, e4⟩ := h.at_
  exact ⟨⟨b, o, c, e1, Nat.lt_of_lt_of_le e2 hb.size, e3, fun j u hj => (hb.cell (p := ⟨b, o + j, none⟩) e2).trans (e4 j u hj)⟩, h.len⟩

/-- One's own can be read, where it has an address. -/
theorem u_Rd.own {w : World} {B : Nat} {e : TypeId} {s n g c : Nat} {cs : List Value} (h : w.ownsRow B e s (.slice (some ⟨g, 0, none⟩) n c) n cs) : u_Rd w s (.slice (some ⟨g, 0, none⟩) n c) n cs := by
  rcases h.2 with ⟨e1, _⟩ | ⟨g', cap, cur, e1, _, h3, h4, _⟩
  · cases e1
  · cases e1
    refine ⟨⟨g, 0, c, rfl, lt_of_heap h3, h4, fun j u hj => ?_⟩, h.1⟩
    have hl : j < n * s := by rw [← h.1]; exact (List.getElem?_eq_some_iff.1 hj).1
    rw [Nat.zero_add, World.ownsRow.cellAt h j hl]
    exact hj

/-- append of what can be read to a row of one's own. -/
theorem u_run_own {P : Program} (W : World) (t ty e : TypeId) (i : TypeInfo) (z : Value) (size bytes : Nat) (h1 : P.underlying t = some (.slice e)) (h2 : P.info? e = some i) (h3 : i.zero = some z) (h4 : i.size = size) (h5 : i.bytes = bytes) (h6 : z.cells.size = size) (h7 : 0 < size)
    (B g c n m : Nat) (xs news : List Value) (x : Value) (hown : W.ownsRow B e size (.slice (some ⟨g, 0, none⟩) n c) n xs) (hx : u_Rd W size x m news) (h1c : ∀ u ∈ news, u.oneCell' = true) (b1 : n + m ≤ 1048576) (b2 : bytes ≤ 1000) (b3 : B ≤ W.heap.size) :
    ∃ g' c' w', (Builtin.append_ #[t, t] ty #[.slice (some ⟨g, 0, none⟩) n c, x]).run P W = .ok (.slice (some ⟨g', 0, none⟩) (n + m) c') w' ∧ w'.ownsRow B e size (.slice (some ⟨g', 0, none⟩) (n + m) c') (n + m) (xs ++ news) ∧ Below B W w' ∧ W.grownBy w' (some g) := by
  obtain ⟨b, o, cx, rfl, hb, hmc, hcs⟩ := hx.at_
  obtain ⟨v', w', hrun, r1, r2, _, r3⟩ := run_append_own_at (P := P) W B t ty e i z size bytes h1 h2 h3 h4 h5 h6 h7 _ n xs hown ⟨b, o, none⟩ m cx news hx.len (fun j u hj => by rw [u_add_plainW]; exact hcs j u hj) h1c (by unfold maxLen; omega) (by
    have : (n + m) * bytes ≤ 1048576 * 1000 := Nat.mul_le_mul b1 b2
    omega) b3
  rcases r1.2 with ⟨e1, _⟩ | ⟨g', cap', cur, e1, _⟩
  · subst e1
    rcases r3 with r3 | r3 <;> cases r3
  · subst e1
    exact ⟨g', cap', w', hrun, r1, (Below.refl B W).grown r2 b3 (fun k e => (hown.lt k e).1), r2⟩

/-- .. as a step of the walk. -/
theorem u_wpL_own {P : Program} (W : World) {ops : Array Oper} {rest : List Oper} {o : Oper} {a : Act} {Q : Exit → Act → World → Prop} (hgd : o.guard = none) (s x : Operand) (t : TypeId)
    (ho : o.op = .call { callee := .builtin .append, args := #[s, x], argTypes := #[t, t] }) (e : TypeId) (i : TypeInfo) (z : Value) (size bytes : Nat) (h1 : P.underlying t = some (.slice e)) (h2 : P.info? e = some i) (h3 : i.zero = some z) (h4 : i.size = size) (h5 : i.bytes = bytes) (h6 : z.cells.size = size) (h7 : 0 < size)
    (B g c n m : Nat) (xs news : List Value) (vx : Value) (hs : a.eval s = .slice (some ⟨g, 0, none⟩) n c) (hxe : a.eval x = vx) (hown : W.ownsRow B e size (.slice (some ⟨g, 0, none⟩) n c) n xs) (hx : u_Rd W size vx m news) (h1c : ∀ u ∈ news, u.oneCell' = true) (b1 : n + m ≤ 1048576) (b2 : bytes ≤ 1000) (b3 : B ≤ W.heap.size) (N : Nat) (hN : n + m = N) (ys : List Value) (hys : xs ++ news = ys)
    (h : ∀ g' c' w', w'.ownsRow B e size (.slice (some ⟨g', 0, none⟩) N c') N ys → Below B W w' → wpList P ops Q rest (a.put o.dst (.slice (some ⟨g', 0, none⟩) N c')) w') : wpList P ops Q (o :: rest) a W := by
  subst hN
  subst hys
  obtain ⟨g', c', w', hrun, r1, r2, _⟩ := u_run_own (P := P) W t o.type e i z size bytes h1 h2 h3 h4 h5 h6 h7 B g c n m xs news vx hown hx h1c b1 b2 b3
  refine wpList_plain hgd fun K hK => ?_
  unfold Oper.wp
  simp [execOp, ho, resolve, invoke, builtin, hs, hxe, hrun, Result.andThen]
  exact hK _ _ (h g' c' w' r1 r2)

/-- .. as a step of a region that draws its order. -/
theorem u_step_own {P : Program} {W : World} {ops : Array Oper} {o : Oper} {a : Act} {K : Act → World → Prop} {Q : Exit → Act → World → Prop} {E : Prop} (hgd : o.guard = none) (s x : Operand) (t : TypeId)
    (ho : o.op = .call { callee := .builtin .append, args := #[s, x], argTypes := #[t, t] }) (e : TypeId) (i : TypeInfo) (z : Value) (size bytes : Nat) (h1 : P.underlying t = some (.slice e)) (h2 : P.info? e = some i) (h3 : i.zero = some z) (h4 : i.size = size) (h5 : i.bytes = bytes) (h6 : z.cells.size = size) (h7 : 0 < size)
    (B g c n m : Nat) (xs news : List Value) (vx : Value) (hs : a.eval s = .slice (some ⟨g, 0, none⟩) n c) (hxe : a.eval x = vx) (hown : W.ownsRow B e size (.slice (some ⟨g, 0, none⟩) n c) n xs) (hx : u_Rd W size vx m news) (h1c : ∀ u ∈ news, u.oneCell' = true) (b1 : n + m ≤ 1048576) (b2 : bytes ≤ 1000) (b3 : B ≤ W.heap.size) (N : Nat) (hN : n + m = N) (ys : List Value) (hys : xs ++ news = ys)
    (h : ∀ g' c' w', w'.ownsRow B e size (.slice (some ⟨g', 0, none⟩) N c') N ys → Below B W w' → W.grownBy w' (some g) → K (a.put o.dst (.slice (some ⟨g', 0, none⟩) N c')) w') :
    if Region.wanted o (yielded ops a.tmps) = true then Oper.wp P o a W K Q else E := by
  subst hN
  subst hys
  have hw : Region.wanted o (yielded ops a.tmps) = true := by simp [Region.wanted, hgd]
  rw [if_pos hw]
  obtain ⟨g', c', w', hrun, r1, r2, r3⟩ := u_run_own (P := P) W t o.type e i z size bytes h1 h2 h3 h4 h5 h6 h7 B g c n m xs news vx hown hx h1c b1 b2 b3
  unfold Oper.wp
  simp [execOp, ho, resolve, invoke, builtin, hs, hxe, hrun, Result.andThen]
  exact h g' c' w' r1 r2 r3

/-- A new row of none. -/
theorem u_own_new (W : World) (e : TypeId) (s : Nat) : (W.alloc (.cells #[] e)).ownsRow W.heap.size e s (.slice (some ⟨W.heap.size, 0, none⟩) 0 0) 0 [] :=
  ⟨by simp, .inr ⟨W.heap.size, 0, #[], rfl, Nat.le_refl _, heap_alloc_new _ _, Nat.le_refl _, Nat.zero_le _, by simp, by simp⟩⟩

theorem u_own_base {w : World} {B B' n : Nat} {v : Value} {xs : List Value} {e : TypeId} {s : Nat} (h : w.ownsRow B' e s v n xs) (hB : B ≤ B') : w.ownsRow B e s v n xs := by
  refine ⟨h.1, ?_⟩
  rcases h.2 with h' | ⟨g, cap, cur, h1, h2, h3⟩
  · exact .inl h'
  · exact .inr ⟨g, cap, cur, h1, Nat.le_trans hB h2, h3⟩

/-- From k on. -/
theorem u_Rd.from {w : World} {s n c b o : Nat} {cs : List Value} (h : u_Rd w s (.slice (some ⟨b, o, none⟩) n c) n cs) {k : Nat} (hk : k ≤ n) : u_Rd w s (.slice (some (if c = k then ⟨b, o, none⟩ else ⟨b, o + k * s, none⟩)) (n - k) (c - k)) (n - k) (cs.drop (k * s)) := by
  obtain ⟨b', o', c', e, h1, h2, h3⟩ := h.at_
  cases e
  have hl : (cs.drop (k * s)).length = (n - k) * s := by rw [List.length_drop, h.len, Nat.sub_mul]
  split
  · have e0 : cs.drop (k * s) = [] := List.eq_nil_of_length_eq_zero (by rw [hl, show n - k = 0 by omega, Nat.zero_mul])
    exact ⟨⟨b, o, _, rfl, h1, by omega, fun j u hj => by rw [e0] at hj; cases hj⟩, hl⟩
  · exact ⟨⟨b, o + k * s, _, rfl, h1, by omega, fun j u hj => by
      rw [List.getElem?_drop] at hj
      rw [Nat.add_assoc]
      exact h3 _ _ hj⟩, hl⟩

/-- The first k. -/
theorem u_Rd.upto {w : World} {s n c b o : Nat} {cs : List Value} (h : u_Rd w s (.slice (some ⟨b, o, none⟩) n c) n cs) {k : Nat} (hk : k ≤ n) : u_Rd w s (.slice (some ⟨b, o, none⟩) k c) k (cs.take (k * s)) := by
  obtain ⟨b', o', c', e, h1, h2, h3⟩ := h.at_
  cases e
  refine ⟨⟨b, o, _, rfl, h1, by omega, fun j u hj => ?_⟩, by rw [List.length_take, h.len]; exact Nat.min_eq_left (Nat.mul_le_mul_right _ hk)⟩
  rw [List.getElem?_take] at hj
  split at hj
  · exact h3 _ _ hj
  · cases hj

/-- A block made at once. -/
theorem u_Rd.new (W : World) (e : TypeId) (s : Nat) (cs : List Value) (n : Nat) (h : cs.length = n * s) : u_Rd (W.alloc (.cells cs.toArray e)) s (.slice (some ⟨W.heap.size, 0, none⟩) n n) n cs :=
  ⟨⟨W.heap.size, 0, n, rfl, by simp, Nat.le_refl _, fun j u hj => by rw [Lib.cell_of_heap (heap_alloc_new W _), Nat.zero_add]; simpa using hj⟩, h⟩

/-- What lies elsewhere stays where a row grows. -/
theorem u_Rd.grown {w w' : World} {s n b o c : Nat} {cs : List Value} {g : Nat} (h : u_Rd w s (.slice (some ⟨b, o, none⟩) n c) n cs) (hg : w.grownBy w' (some g)) (hne : ¬ g = b) : u_Rd w' s (.slice (some ⟨b, o, none⟩) n c) n cs := by
  obtain ⟨b', o', c', e, h1, h2, h3⟩ := h.at_
  cases e
  exact ⟨⟨b, o, c, rfl, Nat.lt_of_lt_of_le h1 hg.size, h2, fun j u hj => u_cell_grownR hg (h3 j u hj) h1 (fun e => hne (by cases e; rfl))⟩, h.len⟩

/-- A row whose cells can be read, of none too, wherever it lies. -/
structure u_Sr (w : World) (s : Nat) (v : Value) (n : Nat) (cs : List Value) : Prop where
  at_ : ∃ a c, v = .slice a n c ∧ (0 < n → ∃ b o, a = some ⟨b, o, none⟩ ∧ b < w.heap.size ∧ u_CellsAt w b o cs)
  len : cs.length = n * s

theorem u_Sr.below {w w' : World} {s n : Nat} {v : Value} {cs : List Value} (h : u_Sr w s v n cs) (hb : Below w.heap.size w w') : u_Sr w' s v n cs := by
  obtain ⟨a, c, e1, e2⟩ := h.at_
  refine ⟨⟨a, c, e1, fun hn => ?_⟩, h.len⟩
  obtain ⟨b, o, f1, f2, f3⟩ := e2 hn
  exact ⟨b, o, f1, Nat.lt_of_lt_of_le f2 hb.size, fun j u hj => (hb.cell (p := ⟨b, o + j, none⟩) f2).trans (f3 j u hj)⟩

/-- append of such a row, as a step of a region that draws its order. -/
theorem u_step_src {P : Program} {W : World} {ops : Array Oper} {o : Oper} {a : Act} {K : Act → World → Prop} {Q : Exit → Act → World → Prop} {E : Prop} (hgd : o.guard = none) (s x : Operand) (t : TypeId)
    (ho : o.op = .call { callee := .builtin .append, args := #[s, x], argTypes := #[t, t] }) (e : TypeId) (i : TypeInfo) (z : Value) (size bytes : Nat) (h1 : P.underlying t = some (.slice e)) (h2 : P.info? e = some i) (h3 : i.zero = some z) (h4 : i.size = size) (h5 : i.bytes = bytes) (h6 : z.cells.size = size) (h7 : 0 < size)
    (B g c n m : Nat) (xs news : List Value) (vx : Value) (hs : a.eval s = .slice (some ⟨g, 0, none⟩) n c) (hxe : a.eval x = vx) (hown : W.ownsRow B e size (.slice (some ⟨g, 0, none⟩) n c) n xs) (hx : u_Sr W size vx m news) (h1c : ∀ u ∈ news, u.oneCell' = true) (b1 : n + m ≤ 1048576) (b2 : bytes ≤ 1000) (b3 : B ≤ W.heap.size) (N : Nat) (hN : n + m = N) (ys : List Value) (hys : xs ++ news = ys)
    (h : ∀ g' c' w', w'.ownsRow B e size (.slice (some ⟨g', 0, none⟩) N c') N ys → Below B W w' → W.grownBy w' (some g) → K (a.put o.dst (.slice (some ⟨g', 0, none⟩) N c')) w') :
    if Region.wanted o (yielded ops a.tmps) = true then Oper.wp P o a W K Q else E := by
  obtain ⟨ax, cx, rfl, hpos⟩ := hx.at_
  rcases Nat.eq_zero_or_pos m with h0 | h0
  · subst h0
    have hw : Region.wanted o (yielded ops a.tmps) = true := by simp [Region.wanted, hgd]
    rw [if_pos hw]
    have hnews : news = [] := List.eq_nil_of_length_eq_zero (by rw [hx.len, Nat.zero_mul])
    subst hnews
    rw [List.append_nil] at hys
    subst hys
    subst hN
    have hsrc : Src P i.size t (.slice ax 0 cx) 0 [] W := by
      cases ax with
      | none => exact Src.ofNil W h1 cx
      | some ad => exact Src.ofSlice W h1 ad 0 cx [] (by simp) (fun j u h => by simp at h) (fun u h => by cases h)
    have hle : n ≤ c := by
      rcases hown.2 with ⟨e1, _⟩ | ⟨g', cap, cur, e1, _, _, hc, _⟩
      · cases e1
      · cases e1
        exact hc
    have hr := run_append_nothing (P := P) W t t o.type e i h1 h2 (some ⟨g, 0, none⟩) n c hle _ hsrc
    unfold Oper.wp
    simp [execOp, ho, resolve, invoke, builtin, hs, hxe, hr, Result.andThen]
    exact h g c W (by rw [Nat.add_zero]; exact hown) (Below.refl _ _) ⟨rfl, rfl, rfl, Nat.le_refl _, fun i _ _ => rfl⟩
  · obtain ⟨b, o', rfl, hb, hcs⟩ := hpos h0
    have hw : Region.wanted o (yielded ops a.tmps) = true := by simp [Region.wanted, hgd]
    rw [if_pos hw]
    subst hN
    subst hys
    obtain ⟨v', w', hrun, r1, r2, _, r3⟩ := run_append_own_at (P := P) W B t o.type e i z size bytes h1 h2 h3 h4 h5 h6 h7 _ n xs hown ⟨b, o', none⟩ m cx news hx.len (fun j u hj => by rw [u_add_plainW]; exact hcs j u hj) h1c (by unfold maxLen; omega) (by
      have : (n + m) * bytes ≤ 1048576 * 1000 := Nat.mul_le_mul b1 b2
      omega) b3
    rcases r1.2 with ⟨e1, _⟩ | ⟨g', cap', cur, e1, _⟩
    · subst e1
      rcases r3 with r3 | r3 <;> cases r3
    · subst e1
      unfold Oper.wp
      simp [execOp, ho, resolve, invoke, builtin, hs, hxe, hrun, Result.andThen]
      exact h g' cap' w' r1 ((Below.refl B W).grown r2 b3 (fun k e => (hown.lt k e).1)) r2

/-- What is set in a block that the row does not lie in. -/
theorem u_own_set {w : World} {B : Nat} {E : TypeId} {s n : Nat} {v : Value} {xs : List Value} (h : w.ownsRow B E s v n xs) {g : Nat} (hg : v.ownBlock ≠ some g) (o : Nat) (u : Value) : (w.setCell ⟨g, o, none⟩ u).ownsRow B E s v n xs :=
  h.kept (Lib.grownBy_setCell w g o u) (.inr hg)

theorem roC_drop (l : List Ro) : ∀ k, (roC l).drop (k * 2) = roC (l.drop k) := by
  induction l with
  | nil => intro k; simp [roC]
  | cons x l ih =>
    intro k
    cases k with
    | zero => rfl
    | succ k =>
      have e : roC (x :: l) = .string x.id :: .int .i64 x.til :: roC l := rfl
      rw [e, show (k + 1) * 2 = k * 2 + 1 + 1 by omega, List.drop_succ_cons, List.drop_succ_cons, List.drop_succ_cons]
      exact ih k

theorem roC_take (l : List Ro) : ∀ k, (roC l).take (k * 2) = roC (l.take k) := by
  induction l with
  | nil => intro k; simp [roC]
  | cons x l ih =>
    intro k
    cases k with
    | zero => rfl
    | succ k =>
      have e : roC (x :: l) = .string x.id :: .int .i64 x.til :: roC l := rfl
      rw [e, show (k + 1) * 2 = k * 2 + 1 + 1 by omega, List.take_succ_cons, List.take_succ_cons, List.take_succ_cons, ih k]
      rfl

theorem RoRow.sr {w : World} {a : Option Addr} {l : List Ro} {n c : Nat} (h : RoRow w a l) (hn : l.length = n) : u_Sr w 2 (.slice a n c) n (roC l) := by
  refine ⟨⟨a, c, rfl, fun h0 => ?_⟩, by rw [roC_len, hn]⟩
  obtain ⟨b, o, e, hb, _, _⟩ := h 0 (by omega)
  refine ⟨b, o, e, hb, fun j u hj => ?_⟩
  have hl : j < (roC l).length := (List.getElem?_eq_some_iff.1 hj).1
  rw [roC_len] at hl
  obtain ⟨b2, o2, e2, _, c1, c2⟩ := h (j / 2) (by omega)
  rw [e] at e2
  obtain ⟨rfl, rfl⟩ : b = b2 ∧ o = o2 := by cases e2; exact ⟨rfl, rfl⟩
  obtain ⟨k1, k2⟩ := roC_get l (j / 2) (by omega)
  rcases Nat.mod_two_eq_zero_or_one j with hm | hm
  · have ej : j / 2 * 2 = j := by omega
    rw [ej] at k1 c1
    rw [k1] at hj
    cases hj
    exact c1
  · have ej : j / 2 * 2 + 1 = j := by omega
    rw [ej] at k2
    rw [k2] at hj
    cases hj
    rw [Nat.add_assoc, ej] at c2
    exact c2

theorem u_Rd.ro {w : World} {n c : Nat} {a : Option Addr} {l : List Ro} (h : u_Rd w 2 (.slice a n c) n (roC l)) : RoRow w a l := by
  intro i hi
  obtain ⟨b, o, c', e, h1, h2, h3⟩ := h.at_
  cases e
  obtain ⟨k1, k2⟩ := roC_get l i hi
  exact ⟨b, o, rfl, h1, h3 _ _ k1, h3 (i * 2 + 1) _ k2⟩

theorem sl_fromR (b o L cap k : Nat) (h : k ≤ L) (hL : L ≤ cap) (W : World) : (Instr.slice 25 (.slice (some ⟨b, o, none⟩) L cap) (some (.int .i64 k)) none none).run Tryz.prog W = .ok (.slice (some (if cap = k then ⟨b, o, none⟩ else ⟨b, o + k * 2, none⟩)) (L - k) (cap - k)) W := by
  have h' : (k : Int) ≤ L := by omega
  have h2 : (L : Int) ≤ cap := by omega
  go_simp
  by_cases e : cap = k <;> simp [e, Addr.add]

theorem sl_uptoR (b o L cap k : Nat) (h : k ≤ L) (hL : L ≤ cap) (W : World) : (Instr.slice 25 (.slice (some ⟨b, o, none⟩) L cap) none (some (.int .i64 k)) none).run Tryz.prog W = .ok (.slice (some ⟨b, o, none⟩) k cap) W := by
  have h' : (k : Int) ≤ L := by omega
  have h2 : (k : Int) ≤ cap := by omega
  have h3 : ¬ cap < k := by omega
  go_simp

theorem infoRoW : (Tryz.prog.info? 83).map (fun i => (i.zero, i.size, i.bytes)) = some (some (.agg #[.string ⟨#[]⟩, .int .i64 0]), 2, 24) := by kernel_rfl

/-- Rows in memory of one's own, with an address. -/
def RoOwn (w : World) (B g c : Nat) (l : List Ro) : Prop := w.ownsRow B 83 2 (.slice (some ⟨g, 0, none⟩) l.length c) l.length (roC l)

theorem RoOwn.below {w w' : World} {B g c : Nat} {l : List Ro} (h : RoOwn w B g c l) (hb : Below w.heap.size w w') : RoOwn w' B g c l := ownsRow_below h hb

theorem RoOwn.rd {w : World} {B g c : Nat} {l : List Ro} (h : RoOwn w B g c l) : u_Rd w 2 (.slice (some ⟨g, 0, none⟩) l.length c) l.length (roC l) := u_Rd.own h

theorem RoOwn.row {w : World} {B g c : Nat} {l : List Ro} (h : RoOwn w B g c l) : RoRow w (some ⟨g, 0, none⟩) l := h.rd.ro

theorem RoOwn.own {w : World} {B g c : Nat} {l : List Ro} (h : RoOwn w B g c l) : OwnRo w B (some ⟨g, 0, none⟩) l := by
  obtain ⟨a, c', e, ho⟩ := own_ro h rfl
  cases e
  exact ho

end Go.Proofs.YtgdfeicojgnoaaaGreatDoor

namespace Go.Proofs.YtgdfeicojgnoaaaGreatDoor
open Go.RowKit
set_option linter.unusedVariables false
set_option linter.unusedSimpArgs false

/-- Two boxes behind w. -/
theorem u_heap2 (w : World) (o1 o2 : Obj) : ((w.alloc o1).alloc o2).heap[w.heap.size]? = some o1 ∧ ((w.alloc o1).alloc o2).heap[w.heap.size + 1]? = some o2 := by
  have h1 := heap_alloc_new w o1
  have h2 := heap_alloc_new (w.alloc o1) o2
  rw [World.size_alloc] at h2
  exact ⟨(Below.heap_alloc _ _ _ (by simp)).trans h1, h2⟩

set_option maxRecDepth 8000 in
set_option maxHeartbeats 4000000 in
theorem cCopyS (t : Tb) (a : Option Addr) (cap : Nat) (w : World) (hR : RoRow w a t.rows) (hn : t.rows.length ≤ 100000) :
    Calls Tryz.prog 47 #[tbV t a cap] w fun e w' => ∃ g c, e = .returned (tbV t (some ⟨g, 0, none⟩) c) ∧ RoOwn w' w.heap.size g c t.rows ∧ Below w.heap.size w w' := by
  obtain ⟨m, l⟩ := t
  unfold RoOwn
  simp only at hR hn
  simp only [tbV]
  obtain ⟨i0, hi, hz0, hz1, hz2⟩ := info_parts infoRoW
  have HI := hid (And.intro hi (And.intro hz0 (And.intro hz1 hz2)))
  obtain ⟨n, hnn⟩ : ∃ n, l.length = n := ⟨_, rfl⟩
  have HS0 := hid (hR.sr (n := n) (c := cap) hnn)
  rw [hnn] at hn ⊢
  obtain ⟨b1, b2⟩ := u_heap2 w (.cells #[.int .i64 m, .slice a n cap] 27) (.cells #[.int .i64 0, .slice none 0 0] 27)
  have HB0 := hid (((Below.refl w.heap.size w).alloc (Nat.le_refl _) (.cells #[.int .i64 m, .slice a n cap] 27)).alloc (by simp) (.cells #[.int .i64 0, .slice none 0 0] 27))
  obtain ⟨W0, hW0⟩ : ∃ W0, ((w.alloc (.cells #[.int .i64 m, .slice a n cap] 27)).alloc (.cells #[.int .i64 0, .slice none 0 0] 27)) = W0 := ⟨_, rfl⟩
  rw [hW0] at b1 b2 HB0
  obtain ⟨B, hB⟩ : ∃ B, w.heap.size = B := ⟨_, rfl⟩
  rw [hB] at b1 b2
  have HM1 := hid b1
  have HM2 := hid b2
  have HSr := hid (HS0.out.below HB0.out)
  clear hi hz0 hz1 hz2 hR hnn b1 b2 HS0
  go_enter Tryz.func47, Tryz.ntmps47
  go_wp2_with fail
  obtain ⟨⟨f0, f1⟩, f2, f3⟩ := u_box2f HM1.out
  obtain ⟨⟨k0, k1⟩, k2, k3⟩ := u_box2f HM2.out
  have HBx := hid ((Below.refl W0.heap.size W0).alloc (Nat.le_refl _) (.cells #[] 83))
  obtain ⟨⟨p0, p1⟩, p2, p3⟩ := u_box2f (u_blk_below HM1.out HBx.out)
  obtain ⟨⟨q0, q1⟩, q2, q3⟩ := u_box2f (u_blk_below HM2.out HBx.out)
  have HBc := hid ((Below.refl W0.heap.size W0).drew)
  go_region_law (first
      | (refine u_step_src rfl (.tmp 5) (.tmp 7) _ rfl 83 i0 _ 2 24 Tryz.underlying25 HI.out.1 HI.out.2.1 HI.out.2.2.1 HI.out.2.2.2 rfl (by decide) W0.heap.size W0.heap.size 0 0 n [] (roC l) (.slice a n cap) (by simp [Act.eval, Act.put]) (by simp [Act.eval, Act.put]) (u_own_new W0.drew _ _) (HSr.out.below (HBc.out.alloc HBc.out.size _)) (roC_one l) (by omega) (by omega) (HBc.out.alloc HBc.out.size _).size n (by omega) (roC l) rfl ?_; intro g6 c6 w6 ho6 hb6 hg6; have HO6 := hid ho6; have HB6 := hid ((HBc.out.alloc HBc.out.size (.cells #[] 83)).trans hb6); obtain ⟨⟨r0, r1⟩, r2, r3⟩ := u_box2f (u_blk_below HM1.out HB6.out); obtain ⟨⟨s0, s1⟩, s2, s3⟩ := u_box2f (u_blk_below HM2.out HB6.out); clear ho6 hb6 hg6))
  all_goals
    have HD := hid ((show B + 1 < W0.heap.size from lt_of_heap HM2.out))
    have HW := hid ((HB0.out.trans (HB6.out.mono HB0.out.size)))
    have HO7 := hid (u_own_base HO6.out (show B ≤ W0.heap.size by have := HD.out; omega))
    go_wp2_with fail
    refine bodyPost_ret (v := .agg #[.int .i64 m, .slice (some ⟨g6, 0, none⟩) n c6]) (by simp [results, Tryz.results47, go_sem, r0, r1, s0, s1]) rfl ⟨g6, c6, rfl, ?_, ?_⟩
    · have hg6 : (Value.slice (some ⟨g6, 0, none⟩) n c6).ownBlock ≠ some (B + 1) := fun e => by
        have h1 := (HO6.out.lt _ e).1
        have h2 := HD.out
        omega
      rw [hB]
      exact u_own_set (u_own_set HO7.out hg6 _ _) hg6 _ _
    · iterate 2 refine Below.setCell ?_ (show w.heap.size ≤ B + 1 by omega) _
      exact HW.out

theorem enterT_there {t : Tb} {id : ByteArray} {til : Int} (h : isR t.rows id = true) : enterT t id til = (t, 1) := if_pos h
theorem enterT_full {t : Tb} {id : ByteArray} {til : Int} (h : isR t.rows id = false) (h2 : (t.rows.length : Int) = t.most) : enterT t id til = (t, 2) := by
  unfold enterT
  rw [if_neg (by rw [h]; exact Bool.false_ne_true), if_pos h2]
theorem enterT_in {t : Tb} {id : ByteArray} {til : Int} (h : isR t.rows id = false) (h2 : ¬ (t.rows.length : Int) = t.most) : enterT t id til = (⟨t.most, insR t.rows (findR t.rows id) ⟨id, til⟩⟩, 0) := by
  unfold enterT
  rw [if_neg (by rw [h]; exact Bool.false_ne_true), if_neg h2]

/-- What l16Enter leaves. -/
def EnterPost (P B : Nat) (T : Tb × Int) (w : World) (e : Ending) (w' : World) : Prop :=
  ∃ g' c', e = .returned (.int .i64 T.2) ∧ w'.heap[P]? = some (.cells #[.int .i64 T.1.most, .slice (some ⟨g', 0, none⟩) T.1.rows.length c'] 27 (0, 0)) ∧ RoOwn w' B g' c' T.1.rows ∧ u_KeepB (fun b => b = P) w w'

set_option maxRecDepth 8000 in
set_option maxHeartbeats 8000000 in
theorem cEnterS (P B g c : Nat) (m : Int) (l : List Ro) (id : ByteArray) (til : Int) (w : World) (hP : w.heap[P]? = some (.cells #[.int .i64 m, .slice (some ⟨g, 0, none⟩) l.length c] 27 (0, 0)))
    (hO : RoOwn w B g c l) (hn : l.length ≤ 100000) (hz : RoSz 1048576 l) (hi : id.size ≤ 1048576) (hB : B ≤ w.heap.size) :
    Calls Tryz.prog 36 #[.pointer (some ⟨P, 0, none⟩), .string id, .int .i64 til] w (EnterPost P B (enterT ⟨m, l⟩ id til) w) := by
  have CF := hid (cFindS ⟨m, l⟩ (some ⟨g, 0, none⟩) c id w hO.row hz (Nat.le_trans hn (by decide)) hi)
  unfold tbV at CF
  simp only at CF
  have HK := hid (findR_le l id)
  obtain ⟨k, hk⟩ : ∃ k, findR l id = k := ⟨_, rfl⟩
  have HP := hid hP
  have HO := hid hO
  have HKE := hid hk
  have HBB := hid hB
  rw [hk] at CF HK
  have HL : Hid (∀ n, l.length = n → ((isR l id = true → enterT ⟨m, l⟩ id til = (⟨m, l⟩, 1)) ∧ (isR l id = false → (n : Int) = m → enterT ⟨m, l⟩ id til = (⟨m, l⟩, 2)) ∧ (isR l id = false → ¬ (n : Int) = m → enterT ⟨m, l⟩ id til = (⟨m, insR l k ⟨id, til⟩⟩, 0)))) := fun n hn => by
    refine ⟨fun h => enterT_there (t := ⟨m, l⟩) h, fun h h2 => enterT_full (t := ⟨m, l⟩) h (by rw [hn]; exact h2), fun h h2 => ?_⟩
    rw [enterT_in (t := ⟨m, l⟩) h (by rw [hn]; exact h2)]
    simp only [hk]
  obtain ⟨T, hT⟩ : ∃ T, enterT ⟨m, l⟩ id til = T := ⟨_, rfl⟩
  rw [hT]
  simp only [hT] at HL
  obtain ⟨n, hnn⟩ : ∃ n, l.length = n := ⟨_, rfl⟩
  have HN := hid hnn
  have HLn := hid (HL.out n hnn)
  have HRd := hid hO.rd
  rw [hnn] at CF HK HP hn HRd
  have HC := hid (show n ≤ c by obtain ⟨b, o, c', e, _, h3, _⟩ := HRd.out.at_; cases e; exact h3)
  have hkn : k ≤ n := HK.out
  have hnc : n ≤ c := HC.out
  obtain ⟨⟨x0, x1⟩, x2, x3⟩ := u_box2f HP.out
  clear hP hO hz hk hT hnn HL hB
  cases hI : isR l id with
  | true =>
    have HE := hid (HLn.out.1 hI)
    rw [hI] at CF
    clear hI
    go_enter Tryz.func36, Tryz.ntmps36
    go_wp2_with fail
    refine CF.out.mono ?_
    rintro e w1 ⟨rfl, hb1⟩
    have HB1 := hid hb1
    clear hb1 CF
    go_wp2_with fail
    go_ret
    refine ⟨g, c, by rw [HE.out]; rfl, ?_, ?_, u_KeepB.of_below _ HB1.out⟩
    · rw [HE.out]
      simp only [HN.out]
      exact u_blk_below HP.out HB1.out
    · rw [HE.out]
      exact HO.out.below HB1.out
  | false =>
    have HEs := hid (And.intro (HLn.out.2.1 hI) (HLn.out.2.2 hI))
    rw [hI] at CF
    clear hI HLn
    go_enter Tryz.func36, Tryz.ntmps36
    go_wp2_with fail
    refine CF.out.mono ?_
    rintro e w1 ⟨rfl, hb1⟩
    have HB1 := hid hb1
    have HP1 := hid (u_blk_below HP.out hb1)
    clear hb1 CF x0 x1 x2 x3
    obtain ⟨⟨x0, x1⟩, x2, x3⟩ := u_box2f HP1.out
    by_cases hq : (n : Int) = m
    · have HE := hid (HEs.out.1 hq)
      have hqb : ((n : Int) == m) = true := by simpa using hq
      clear hq
      go_wp2_with fail
      go_quiet (fail)
      go_wp2_with fail
      go_ret
      refine ⟨g, c, by rw [HE.out]; rfl, ?_, ?_, u_KeepB.of_below _ (below_drewN HB1.out _)⟩
      · rw [HE.out]
        simp only [HN.out]
        exact HP1.out
      · rw [HE.out]
        exact HO.out.below (below_drewN HB1.out _)
    · have HE := hid (HEs.out.2 hq)
      have hqb : ((n : Int) == m) = false := by simpa using hq
      have hkI : (k : Int) ≤ (n : Int) := by omega
      have hncI : (n : Int) ≤ (c : Int) := by omega
      clear hq
      go_wp2_with fail
      go_quiet (fail)
      generalize hwd : w1.drewN _ = wd
      have HBd := hid (show Below w.heap.size w wd by rw [← hwd]; exact below_drewN HB1.out _)
      have HPd := hid (show wd.heap[P]? = some (.cells #[.int .i64 m, .slice (some ⟨g, 0, none⟩) n c] 27 (0, 0)) by rw [← hwd]; exact HP1.out)
      clear hwd x0 x1 x2 x3 HP1 HB1
      obtain ⟨⟨x0, x1⟩, x2, x3⟩ := u_box2f HPd.out
      have HRd' := hid (HRd.out.below HBd.out)
      have HRF := hid (HRd'.out.from hkn)
      have HRU := hid (HRd'.out.upto hkn)
      rw [roC_drop] at HRF
      rw [roC_take] at HRU
      have hfr := sl_fromR g 0 n c k hkn hnc
      have hup := sl_uptoR g 0 n c k hkn hnc
      simp only [Nat.zero_add] at hfr HRF
      obtain ⟨i0, hi0, hz0, hz1, hz2⟩ := info_parts infoRoW
      have HI := hid (And.intro hi0 (And.intro hz0 (And.intro hz1 hz2)))
      clear hi0 hz0 hz1 hz2
      generalize (if c = k then (⟨g, 0, none⟩ : Addr) else ⟨g, k * 2, none⟩) = A1 at *
      have HB1 := hid ((Below.refl wd.heap.size wd).alloc (Nat.le_refl _) (.cells #[] 83))
      have HO1 := hid (u_own_new wd 83 2)
      have HF1 := hid (HRF.out.below HB1.out)
      obtain ⟨⟨p0, p1⟩, p2, p3⟩ := u_box2f (u_blk_below HPd.out HB1.out)
      go_wp2_with (at_builtin; refine u_wpL_own _ rfl _ _ _ rfl 83 i0 _ 2 24 Tryz.underlying25 HI.out.1 HI.out.2.1 HI.out.2.2.1 HI.out.2.2.2 rfl (by decide) wd.heap.size wd.heap.size 0 0 (n - k) [] (roC (l.drop k)) _ rfl rfl HO1.out HF1.out (roC_one _) (by omega) (by omega) HB1.out.size (n - k) (by omega) (roC (l.drop k)) rfl ?_)
      intro g2 c2 w2 ho2 hb2
      have HB2 := hid (HB1.out.trans hb2)
      have HRS := hid (u_Rd.own ho2)
      have HP2 := hid (u_blk_below HPd.out HB2.out)
      clear ho2 hb2 HO1 HF1 p0 p1 p2 p3 hfr
      obtain ⟨⟨p0, p1⟩, p2, p3⟩ := u_box2f HP2.out
      have HB3 := hid ((Below.refl w2.heap.size w2).alloc (Nat.le_refl _) (.cells #[] 83))
      obtain ⟨⟨q0, q1⟩, q2, q3⟩ := u_box2f (u_blk_below HP2.out HB3.out)
      have HO3 := hid (u_own_new w2 83 2)
      have HU3 := hid ((HRU.out.below HB2.out).below HB3.out)
      go_wp2_with (at_builtin; refine u_wpL_own _ rfl _ _ _ rfl 83 i0 _ 2 24 Tryz.underlying25 HI.out.1 HI.out.2.1 HI.out.2.2.1 HI.out.2.2.2 rfl (by decide) w2.heap.size w2.heap.size 0 0 k [] (roC (l.take k)) _ rfl rfl HO3.out HU3.out (roC_one _) (by omega) (by omega) HB3.out.size k (by omega) (roC (l.take k)) rfl ?_)
      intro g4 c4 w4 ho4 hb4
      have HB4 := hid (HB3.out.trans hb4)
      have HO4 := hid ho4
      clear ho4 hb4 hup HO3 HU3 p0 p1 p2 p3 q0 q1 q2 q3
      have HB5 := hid ((Below.refl w4.heap.size w4).alloc (Nat.le_refl _) (.cells #[.string id, .int .i64 til] 83))
      have HO5 := hid (ownsRow_below HO4.out HB5.out)
      have HN5 := hid (u_Rd.new w4 83 2 (roC [⟨id, til⟩]) 1 rfl)
      go_wp2_with (at_builtin; refine u_wpL_own _ rfl _ _ _ rfl 83 i0 _ 2 24 Tryz.underlying25 HI.out.1 HI.out.2.1 HI.out.2.2.1 HI.out.2.2.2 rfl (by decide) w2.heap.size g4 c4 k 1 (roC (l.take k)) (roC [⟨id, til⟩]) _ rfl rfl HO5.out HN5.out (roC_one _) (by omega) (by omega) (Nat.le_trans HB4.out.size HB5.out.size) (k + 1) rfl (roC (l.take k ++ [⟨id, til⟩])) (by rw [roC_app]) ?_)
      intro g6 c6 w6 ho6 hb6
      have HB6 := hid ((HB4.out.trans (HB5.out.mono HB4.out.size)).trans hb6)
      have HO6 := hid ho6
      have HR6 := hid (HRS.out.below HB6.out)
      clear ho6 hb6 HO5 HN5 HO4
      go_wp2_with (at_builtin; refine u_wpL_own _ rfl _ _ _ rfl 83 i0 _ 2 24 Tryz.underlying25 HI.out.1 HI.out.2.1 HI.out.2.2.1 HI.out.2.2.2 rfl (by decide) w2.heap.size g6 c6 (k + 1) (n - k) (roC (l.take k ++ [⟨id, til⟩])) (roC (l.drop k)) _ rfl rfl HO6.out HR6.out (roC_one _) (by omega) (by omega) HB6.out.size (n + 1) (by omega) (roC (insR l k ⟨id, til⟩)) (by rw [← roC_app, List.append_assoc]; rfl) ?_)
      intro g8 c8 w8 ho8 hb8
      have HB8 := hid (HB2.out.trans ((HB6.out.trans hb8).mono HB2.out.size))
      have HP8 := hid (u_blk_below HPd.out HB8.out)
      have HGe := hid (show wd.heap.size ≤ g8 from Nat.le_trans HB2.out.size (ho8.lt _ rfl).1)
      have HO8 := hid ho8
      clear ho8 hb8
      obtain ⟨⟨p0, p1⟩, p2, p3⟩ := u_box2f HP8.out
      have HLN := hid (show (insR l k ⟨id, til⟩).length = n + 1 by rw [insR_len _ _ _ (by rw [HN.out]; exact hkn), HN.out])
      go_wp2_with fail
      go_ret
      have hPl : P < wd.heap.size := lt_of_heap HPd.out
      have hne : (Value.slice (some ⟨g8, 0, none⟩) (n + 1) c8).ownBlock ≠ some P := fun e => by
        have h1 := HGe.out
        have h2 : g8 = P := Option.some.inj e
        omega
      refine ⟨g8, c8, by rw [HE.out]; rfl, ?_, ?_, ?_⟩
      · rw [HE.out]
        simp only [HLN.out]
        have := u_heap_set (i := 1) HP8.out (.slice (some ⟨g8, 0, none⟩) (n + 1) c8)
        simpa using this
      · rw [HE.out]
        unfold RoOwn
        simp only [HLN.out]
        refine u_own_set (u_own_base HO8.out ?_) hne _ _
        have h1 := HBd.out.size
        have h2 := HB2.out.size
        have h3 := HBB.out
        omega
      · refine (u_KeepB.of_below _ HBd.out).trans ((u_KeepB.of_below _ HB8.out).trans ?_)
        exact u_KeepB.of_set _ _ _ rfl

end Go.Proofs.YtgdfeicojgnoaaaGreatDoor
