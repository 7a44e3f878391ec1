/- Marks in a row of tokens: set, and held. Marks in a row of nodes: set, and held. The shape of a row of nodes: of a copy among the laws' arguments, and of one that grew. -/
import Derived.Test.YtcjeodgfpnecgaaGreatDoorM14
import Derived.Test.YtcjeodgfpnecgaaGreatDoorM28
import Derived.Test.YtcjeodgfpnecgaaGreatDoorM15
namespace Go.Proofs.YtcjeodgfpnecgaaGreatDoor
open Go.RowKit
set_option linter.unusedVariables false
set_option linter.unusedSimpArgs false

theorem Shape.K_ge (s : Shape) (k : Nat) : ∀ j, j ≤ s.K k j := by
  intro j
  induction j with
  | zero => exact Nat.zero_le _
  | succ j ih =>
    show j + 1 ≤ s.K k j + (3 + 2 * s.len j)
    omega

theorem hold_step {s : Shape} {B i : Nat} {w w' : World} {f : Nat → Tk} {t : Tk} {cur : Array Value} (ok : s.Ok B) (h : s.Holds w f) (hi : i < s.n) (hcur : w.heap[s.R]? = some (.cells cur 101 (0, 0)))
    (hk : KeepB (fun b => b = s.R ∨ 0 < s.len i ∧ b = s.A i) w w')
    (hR : w'.heap[s.R]? = some (.cells (((cur.setIfInBounds (s.o + i * 4) (.int .i64 t.kind)).setIfInBounds (s.o + i * 4 + 1) (.string t.name)).setIfInBounds (s.o + i * 4 + 3) (.string t.text)) 101 (0, 0)))
    (hl : t.attrs.length = s.len i) (ha : 0 < s.len i → ∃ cu, w'.heap[s.A i]? = some (.cells cu 58 (0, 0)) ∧ AtCells cu (s.O i) t.attrs) : s.Holds w' (fun j => if j = i then t else f j) := by
  obtain ⟨cur0, hc0, hr⟩ := h.row
  have ec : cur0 = cur := by
    rw [hcur] at hc0
    simp at hc0
    exact hc0.symm
  subst ec
  have b3 : s.o + i * 4 + 3 < cur0.size := (Array.getElem?_eq_some_iff.1 (hr i hi).c3).1
  refine ⟨⟨_, hR, fun j hj => ?_⟩, fun j hj => ?_, fun j hj hlj => ?_⟩
  · by_cases e : j = i
    · subst e
      simp only [if_true]
      have t2 := (hr j hj).c2
      refine ⟨?_, ?_, ?_, ?_⟩
      · simp [Array.getElem?_setIfInBounds]; omega
      · simp [Array.getElem?_setIfInBounds]; omega
      · simp only [Array.getElem?_setIfInBounds]
        rw [if_neg (by omega), if_neg (by omega), if_neg (by omega), t2, h.len j hj, hl]
      · simp [Array.getElem?_setIfInBounds]; omega
    · simp only [if_neg e]
      have t0 := hr j hj
      refine ⟨?_, ?_, ?_, ?_⟩
      · simp only [Array.getElem?_setIfInBounds]; rw [if_neg (by omega), if_neg (by omega), if_neg (by omega)]; exact t0.c0
      · simp only [Array.getElem?_setIfInBounds]; rw [if_neg (by omega), if_neg (by omega), if_neg (by omega)]; exact t0.c1
      · simp only [Array.getElem?_setIfInBounds]; rw [if_neg (by omega), if_neg (by omega), if_neg (by omega)]; exact t0.c2
      · simp only [Array.getElem?_setIfInBounds]; rw [if_neg (by omega), if_neg (by omega), if_neg (by omega)]; exact t0.c3
  · by_cases e : j = i
    · subst e; simpa using hl
    · simp only [if_neg e]; exact h.len j hj
  · by_cases e : j = i
    · subst e
      simp only [if_true]
      exact ha hlj
    · simp only [if_neg e]
      obtain ⟨cu, hcu, hac⟩ := h.ats j hj hlj
      refine ⟨cu, (hk.block _ (lt_of_heap hcu) ?_).trans hcu, hac⟩
      rintro (x | ⟨x, y⟩)
      · exact (ok.at_ j hj hlj).2.2 x
      · exact ok.apart j i hj hi e hlj x y

end Go.Proofs.YtcjeodgfpnecgaaGreatDoor

namespace Go.Proofs.YtcjeodgfpnecgaaGreatDoor.Nd
open Go.RowKit
set_option linter.unusedVariables false
set_option linter.unusedSimpArgs false

/-- The tokens f lie there. -/
structure HoldsN (s : Shape) (w : World) (f : Nat → Tk) : Prop where
  row : ∃ cur, w.heap[s.R]? = some (.cells cur 44 (0, 0)) ∧ ∀ j, j < s.n → TkCells cur (s.o + j * 4) (f j) (s.aa j) (s.C j)
  len : ∀ j, j < s.n → (f j).attrs.length = s.len j
  ats : ∀ j, j < s.n → 0 < s.len j → ∃ cu, w.heap[s.A j]? = some (.cells cu 58 (0, 0)) ∧ AtCells cu (s.O j) (f j).attrs

theorem HoldsN.keep {s : Shape} {w w' : World} {f : Nat → Tk} {p : Nat → Prop} (h : HoldsN s w f) (k : KeepB p w w') (h1 : ¬ p s.R) (h2 : ∀ j, j < s.n → 0 < s.len j → ¬ p (s.A j)) : HoldsN s w' f := by
  obtain ⟨cur, hc, hr⟩ := h.row
  refine ⟨⟨cur, (k.block _ (lt_of_heap hc) h1).trans hc, hr⟩, h.len, fun j hj hl => ?_⟩
  obtain ⟨cu, hcu, ha⟩ := h.ats j hj hl
  exact ⟨cu, (k.block _ (lt_of_heap hcu) (h2 j hj hl)).trans hcu, ha⟩
-- over type 44

theorem HoldsN.below {s : Shape} {w w' : World} {f : Nat → Tk} (h : HoldsN s w f) (k : Below w.heap.size w w') : HoldsN s w' f :=
  h.keep (KeepB.of_below (fun _ => False) k) (fun x => x) (fun _ _ _ x => x)
-- over type 44

theorem HoldsN.atRow {s : Shape} {w : World} {f : Nat → Tk} {B : Nat} (h : HoldsN s w f) (ok : s.Ok B) (j : Nat) (hj : j < s.n) : AtRow w (s.aa j) (f j).attrs := by
  intro m hm
  have hl : 0 < s.len j := by rw [← h.len j hj]; omega
  obtain ⟨cu, hcu, ha⟩ := h.ats j hj hl
  obtain ⟨c1, c2⟩ := ha m hm
  exact ⟨s.A j, s.O j, (ok.at_ j hj hl).1, lt_of_heap hcu, by rw [Lib.cell_of_heap hcu]; exact c1, by rw [Lib.cell_of_heap hcu]; exact c2⟩
-- over type 44

theorem HoldsN.tkRow {s : Shape} {w : World} {f : Nat → Tk} {B : Nat} {ts : List Tk} (h : HoldsN s w f) (ok : s.Ok B) (hn : ts.length = s.n) (hf : ∀ j (hj : j < ts.length), f j = ts[j]) : TkRow w (some ⟨s.R, s.o, none⟩) ts := by
  intro j hj
  obtain ⟨cur, hc, hr⟩ := h.row
  have hjn : j < s.n := by omega
  have t := hr j hjn
  have ha := h.atRow ok j hjn
  rw [hf j hj] at t ha
  exact ⟨s.R, s.o, s.aa j, s.C j, rfl, lt_of_heap hc, by rw [Lib.cell_of_heap hc]; exact t.c0, by rw [Lib.cell_of_heap hc]; exact t.c1, by rw [Lib.cell_of_heap hc]; exact t.c2, by rw [Lib.cell_of_heap hc]; exact t.c3, ha⟩
-- over type 44

theorem hold_step {s : Shape} {B i : Nat} {w w' : World} {f : Nat → Tk} {t : Tk} {cur : Array Value} (ok : s.Ok B) (h : HoldsN s w f) (hi : i < s.n) (hcur : w.heap[s.R]? = some (.cells cur 44 (0, 0)))
    (hk : KeepB (fun b => b = s.R ∨ 0 < s.len i ∧ b = s.A i) w w')
    (hR : w'.heap[s.R]? = some (.cells (((cur.setIfInBounds (s.o + i * 4) (.int .i64 t.kind)).setIfInBounds (s.o + i * 4 + 1) (.string t.name)).setIfInBounds (s.o + i * 4 + 3) (.string t.text)) 44 (0, 0)))
    (hl : t.attrs.length = s.len i) (ha : 0 < s.len i → ∃ cu, w'.heap[s.A i]? = some (.cells cu 58 (0, 0)) ∧ AtCells cu (s.O i) t.attrs) : HoldsN s w' (fun j => if j = i then t else f j) := by
  obtain ⟨cur0, hc0, hr⟩ := h.row
  have ec : cur0 = cur := by
    rw [hcur] at hc0
    simp at hc0
    exact hc0.symm
  subst ec
  have b3 : s.o + i * 4 + 3 < cur0.size := (Array.getElem?_eq_some_iff.1 (hr i hi).c3).1
  refine ⟨⟨_, hR, fun j hj => ?_⟩, fun j hj => ?_, fun j hj hlj => ?_⟩
  · by_cases e : j = i
    · subst e
      simp only [if_true]
      have t2 := (hr j hj).c2
      refine ⟨?_, ?_, ?_, ?_⟩
      · simp [Array.getElem?_setIfInBounds]; omega
      · simp [Array.getElem?_setIfInBounds]; omega
      · simp only [Array.getElem?_setIfInBounds]
        rw [if_neg (by omega), if_neg (by omega), if_neg (by omega), t2, h.len j hj, hl]
      · simp [Array.getElem?_setIfInBounds]; omega
    · simp only [if_neg e]
      have t0 := hr j hj
      refine ⟨?_, ?_, ?_, ?_⟩
      · simp only [Array.getElem?_setIfInBounds]; rw [if_neg (by omega), if_neg (by omega), if_neg (by omega)]; exact t0.c0
      · simp only [Array.getElem?_setIfInBounds]; rw [if_neg (by omega), if_neg (by omega), if_neg (by omega)]; exact t0.c1
      · simp only [Array.getElem?_setIfInBounds]; rw [if_neg (by omega), if_neg (by omega), if_neg (by omega)]; exact t0.c2
      · simp only [Array.getElem?_setIfInBounds]; rw [if_neg (by omega), if_neg (by omega), if_neg (by omega)]; exact t0.c3
  · by_cases e : j = i
    · subst e; simpa using hl
    · simp only [if_neg e]; exact h.len j hj
  · by_cases e : j = i
    · subst e
      simp only [if_true]
      exact ha hlj
    · simp only [if_neg e]
      obtain ⟨cu, hcu, hac⟩ := h.ats j hj hlj
      refine ⟨cu, (hk.block _ (lt_of_heap hcu) ?_).trans hcu, hac⟩
      rintro (x | ⟨x, y⟩)
      · exact (ok.at_ j hj hlj).2.2 x
      · exact ok.apart j i hj hi e hlj x y

set_option maxRecDepth 8000 in
set_option maxHeartbeats 4000000 in
theorem cMarkNodeH (s : Shape) (B cap k : Nat) (f : Nat → Tk) (w : World) (ok : s.Ok B) (hh : HoldsN s w f) (hk : s.K k s.n ≤ 100000000) :
    Calls Tryz.prog 11 #[.slice (some ⟨s.R, s.o, none⟩) s.n cap, .int .i64 k] w fun e w' => e = .returned (.int .i64 (s.K k s.n : Nat)) ∧ HoldsN s w' (fun j => mkTk (s.K k j) (s.len j)) ∧ KeepB s.Has w w' := by
  have OK := hid ok
  have HH := hid hh
  clear ok hh
  obtain ⟨n, hn⟩ : ∃ n, s.n = n := ⟨_, rfl⟩
  have HN := hid hn
  have HK := hid hk
  have hnb : n ≤ 100000000 := by have := s.K_ge k s.n; omega
  rw [hn]
  obtain ⟨R, hR⟩ : ∃ R, s.R = R := ⟨_, rfl⟩
  obtain ⟨o, ho⟩ : ∃ o, s.o = o := ⟨_, rfl⟩
  have HRR := hid hR
  have HO := hid ho
  rw [hR, ho]
  clear hn hk hR ho
  have HE := hid (show HoldsN s w (fun j => if j < 0 then mkTk (s.K k j) (s.len j) else f j) by simpa using HH.out)
  clear HH
  go_enter Tryz.func11, Tryz.ntmps11
  go_wp2
  go_loopw [1, 5] (fun x y wr => ∃ i K : Nat, x = .int .i64 (K : Int) ∧ y = .int .i64 (i : Int) ∧ i ≤ n ∧ Hid (K = s.K k i) ∧ Hid (HoldsN s wr (fun j => if j < i then mkTk (s.K k j) (s.len j) else f j)) ∧ Hid (KeepB s.Has w wr)) (fun _ y _ => n - (intOf y).toNat)
  case atStart => exact ⟨0, k, rfl, rfl, Nat.zero_le _, rfl, HE.out, KeepB.refl _ _⟩
  case round =>
    clear HE
    obtain ⟨i, K, rfl, rfl, hi, HKi, HH, HW⟩ := hrel
    by_cases hlt : i < n
    · have his : i < s.n := by rw [HN.out]; exact hlt
      have hin : (i : Int) < (n : Int) := by omega
      obtain ⟨L, hL⟩ : ∃ L, s.len i = L := ⟨_, rfl⟩
      have HL := hid hL
      have HK1 := hid (show s.K k (i + 1) = K + (3 + 2 * L) by rw [HKi.out, ← hL]; rfl)
      have hKb : K + 3 + 2 * L ≤ 100000000 := by
        have h1 := s.K_le k (i + 1) s.n (by omega)
        have h2 := HK.out
        rw [HK1.out] at h1
        omega
      obtain ⟨cur, hcur, hr⟩ := HH.out.row
      have HC := hid hcur
      have hri := hr i his
      simp only [if_neg (Nat.lt_irrefl i)] at hri
      have b3 : o + i * 4 + 3 < cur.size := by have := (Array.getElem?_eq_some_iff.1 hri.c3).1; rw [HO.out] at this; exact this
      have t2 : cur[o + i * 4 + 2]? = some (.slice (s.aa i) L (s.C i)) := by
        have := hri.c2
        have hl := HH.out.len i his
        simp only [if_neg (Nat.lt_irrefl i)] at hl
        rw [HO.out, hl, hL] at this
        exact this
      rw [HRR.out] at hcur
      have HCR := hid hcur
      have T2 := hid t2
      have HA0 := hid (show 0 < L → ∃ cu : Array Value, wr.heap[s.A i]? = some (.cells cu 58 (0, 0)) ∧ s.O i + L * 2 ≤ cu.size from fun h => by
        obtain ⟨cu, h1, h2⟩ := HH.out.ats i his (by rw [hL]; exact h)
        have hl := HH.out.len i his
        simp only [if_neg (Nat.lt_irrefl i)] at hl h2
        rw [hL] at hl
        have := (Array.getElem?_eq_some_iff.1 (h2 (L - 1) (by omega)).2).1
        exact ⟨cu, h1, by omega⟩)
      have OKi := hid (fun h : 0 < L => OK.out.at_ i his (by rw [hL]; exact h))
      clear hr hri hL t2
      obtain ⟨o0, k0⟩ := cell_there hcur (i := o + i * 4) (by omega)
      have f0 : wr.frozen? ⟨R, o + i * 4, none⟩ = false := Lib.frozen_of_heap hcur _
      have H1 := hid (heap_set (i := o + i * 4) hcur (.int .i64 (K : Int)))
      have W1 := hid (KeepB.of_set (p := fun b => b = R) wr (g := R) (o + i * 4) (.int .i64 (K : Int)) rfl)
      obtain ⟨w1, hw1⟩ : ∃ w1, wr.setCell ⟨R, o + i * 4, none⟩ (.int .i64 (K : Int)) = w1 := ⟨_, rfl⟩
      rw [hw1] at H1 W1
      have C1 := fun w => cMarkText (K + 1) (by omega) w
      obtain ⟨X, hX⟩ : ∃ X, markS (K + 1) = X := ⟨_, rfl⟩
      have HX := hid hX
      rw [hX] at C1
      clear hX hcur
      go_wp2_with fail
      refine (C1 _).mono ?_
      rintro e w2 ⟨rfl, hb2⟩
      have H2 := hid (blk_below H1.out hb2)
      have W2 := hid (W1.out.trans (KeepB.of_below _ hb2))
      obtain ⟨o1, k1⟩ := cell_there H2.out (i := o + i * 4 + 1) (by simp; omega)
      have f1 : w2.frozen? ⟨R, o + i * 4 + 1, none⟩ = false := Lib.frozen_of_heap H2.out _
      have H3 := hid (heap_set (i := o + i * 4 + 1) H2.out (.string X))
      have W3 := hid (W2.out.trans (KeepB.of_set (p := fun b => b = R) w2 (g := R) (o + i * 4 + 1) (.string X) rfl))
      clear hb2 C1 hw1 k0 f0 H1 W1
      obtain ⟨w3, hw3⟩ : ∃ w3, w2.setCell ⟨R, o + i * 4 + 1, none⟩ (.string X) = w3 := ⟨_, rfl⟩
      rw [hw3] at H3 W3
      have k2 : w3.cell? ⟨R, o + i * 4 + 2, none⟩ = some (.slice (s.aa i) L (s.C i)) := by
        rw [Lib.cell_of_heap H3.out]
        simp only [Array.getElem?_setIfInBounds]
        rw [if_neg (by omega), if_neg (by omega)]
        exact T2.out
      have CM : Calls Tryz.prog 24 #[.slice (s.aa i) L (s.C i), .int .i64 ((K + 2 : Nat) : Int)] w3 fun e w' => e = .returned (.int .i64 ((K + 2 + 2 * L : Nat) : Int)) ∧ (w'.heap[R]? = w3.heap[R]? ∧ (0 < L → ∃ cu, w'.heap[s.A i]? = some (.cells cu 58 (0, 0)) ∧ AtCells cu (s.O i) (mkAts (K + 2) L))) ∧ KeepB (fun b => b = R ∨ 0 < L ∧ b = s.A i) w3 w' := by
        by_cases hL0 : L = 0
        · subst hL0
          refine (cMarkAttr0 (s.aa i) (s.C i) (K + 2) w3).mono ?_
          rintro e w' ⟨rfl, rfl⟩
          exact ⟨rfl, ⟨rfl, fun h => by omega⟩, KeepB.refl _ _⟩
        · obtain ⟨a1, a2, a3⟩ := OKi.out (by omega)
          obtain ⟨cu, hcu, hsz⟩ := HA0.out (by omega)
          have hcu3 : w3.heap[s.A i]? = some (.cells cu 58 (0, 0)) := (W3.out.block _ (lt_of_heap hcu) (fun e => a3 (by rw [HRR.out]; exact e))).trans hcu
          rw [a1]
          refine (cMarkAttrS (s.A i) (s.O i) (s.C i) L (K + 2) cu w3 hcu3 hsz (by omega)).mono ?_
          rintro e w' ⟨rfl, ⟨cu', h1, _, h3⟩, hg⟩
          exact ⟨rfl, ⟨hg.block R (lt_of_heap H3.out) (fun e => a3 (by rw [HRR.out, ← Option.some.inj e])), fun _ => ⟨cu', h1, marksA_cells h3⟩⟩, KeepB.of_grown hg (.inr ⟨by omega, rfl⟩)⟩
      have W3' := hid (W3.out.mono (q := fun b => b = R ∨ 0 < L ∧ b = s.A i) (fun b e => .inl e))
      have hw2c : ((K : Int) + 1) + 1 = ((K + 2 : Nat) : Int) := by omega
      clear HA0 W2 W3 H2
      go_wp2_with fail
      refine CM.mono ?_
      rintro e w4 ⟨rfl, ⟨hr4, ha4⟩, hk4⟩
      have H4 := hid (hr4.trans H3.out)
      have HA4 := hid ha4
      have W4 := hid (W3'.out.trans hk4)
      clear hr4 ha4 hk4 CM k2 W3' H3 hw3 k1 f1
      have C5 := fun w => cMarkText (K + 2 + 2 * L) (by omega) w
      obtain ⟨Y, hY⟩ : ∃ Y, markS (K + 2 + 2 * L) = Y := ⟨_, rfl⟩
      have HY := hid hY
      rw [hY] at C5
      clear hY
      obtain ⟨M, hM⟩ : ∃ M, K + 2 + 2 * L = M := ⟨_, rfl⟩
      have HM := hid hM
      have hMb : M ≤ 100000000 := by omega
      rw [hM] at C5 ⊢
      clear hM
      go_wp2_with fail
      refine (C5 _).mono ?_
      rintro e w5 ⟨rfl, hb5⟩
      have H5 := hid (blk_below H4.out hb5)
      have HA5 := hid (show 0 < L → ∃ cu, w5.heap[s.A i]? = some (.cells cu 58 (0, 0)) ∧ AtCells cu (s.O i) (mkAts (K + 2) L) from fun h => by
        obtain ⟨cu, h1, h2⟩ := HA4.out h
        exact ⟨cu, blk_below h1 hb5, h2⟩)
      have W5 := hid (W4.out.trans (KeepB.of_below _ hb5))
      obtain ⟨o3, k3⟩ := cell_there H5.out (i := o + i * 4 + 3) (by simp; omega)
      have f3 : w5.frozen? ⟨R, o + i * 4 + 3, none⟩ = false := Lib.frozen_of_heap H5.out _
      have H6 := hid (heap_set (i := o + i * 4 + 3) H5.out (.string Y))
      have W6 := hid (W5.out.trans (KeepB.of_set (p := fun b => b = R ∨ 0 < L ∧ b = s.A i) w5 (g := R) (o + i * 4 + 3) (.string Y) (.inl rfl)))
      have HA6 := hid (show 0 < L → ∃ cu, (w5.setCell ⟨R, o + i * 4 + 3, none⟩ (.string Y)).heap[s.A i]? = some (.cells cu 58 (0, 0)) ∧ AtCells cu (s.O i) (mkAts (K + 2) L) from fun h => by
        obtain ⟨cu, h1, h2⟩ := HA5.out h
        exact ⟨cu, (Below.heap_setCell w5 _ _ _ (by show ¬ s.A i = R; rw [← HRR.out]; exact (OKi.out h).2.2)).trans h1, h2⟩)
      have HF := hid (show HoldsN s (w5.setCell ⟨R, o + i * 4 + 3, none⟩ (.string Y)) (fun j => if j = i then mkTk K L else if j < i then mkTk (s.K k j) (s.len j) else f j) from
        hold_step OK.out HH.out his HC.out (by rw [HRR.out, HL.out]; exact W6.out) (by rw [HRR.out, HO.out]; show _ = some (Obj.cells (((cur.setIfInBounds (o + i * 4) (.int .i64 (K : Int))).setIfInBounds (o + i * 4 + 1) (.string (markS (K + 1)))).setIfInBounds (o + i * 4 + 3) (.string (markS (K + 2 + 2 * L)))) _ _); rw [HX.out, HY.out]; exact H6.out)
          (by rw [HL.out]; exact mkAts_len _ _) (by rw [HL.out]; exact HA6.out))
      have HF2 := hid (show HoldsN s (w5.setCell ⟨R, o + i * 4 + 3, none⟩ (.string Y)) (fun j => if j < i + 1 then mkTk (s.K k j) (s.len j) else f j) from by
        have e : (fun j => if j < i + 1 then mkTk (s.K k j) (s.len j) else f j) = (fun j => if j = i then mkTk K L else if j < i then mkTk (s.K k j) (s.len j) else f j) := by
          funext j
          by_cases h1 : j = i
          · subst h1; rw [if_pos (by omega), if_pos rfl, HKi.out, HL.out]
          · rw [if_neg h1]
            by_cases h2 : j < i
            · rw [if_pos (by omega), if_pos h2]
            · rw [if_neg (by omega), if_neg h2]
        rw [e]
        exact HF.out)
      have HW6 := hid (HW.out.trans (W6.out.mono (q := s.Has) (fun b e => by
        rcases e with e | ⟨e1, e2⟩
        · exact .inl (e.trans HRR.out.symm)
        · exact .inr ⟨i, his, by rw [HL.out]; exact e1, e2⟩)))
      clear HF HA4 HA5 HA6 W4 W5 W6 H4 H5 C5 hb5 HC HCR T2
      go_wp2_with fail
      go_roundw
      case rel => exact ⟨i + 1, M + 1, by go_num, by go_num, by omega, (show M + 1 = s.K k (i + 1) by rw [HK1.out, ← HM.out]; omega), HF2.out, HW6.out⟩
      case measure => simp [intOf]; omega
    · have hie : i = n := by omega
      subst hie
      have HF := hid (show HoldsN s wr (fun j => mkTk (s.K k j) (s.len j)) from ⟨by
        obtain ⟨cur, hc, hr⟩ := HH.out.row
        exact ⟨cur, hc, fun j hj => by have := hr j hj; rw [HN.out] at hj; simp only [if_pos hj] at this; exact this⟩, fun j hj => by
        have := HH.out.len j hj; rw [HN.out] at hj; simp only [if_pos hj] at this; exact this, fun j hj hl => by
        have := HH.out.ats j hj hl; rw [HN.out] at hj; simp only [if_pos hj] at this; exact this⟩)
      go_wp2_with fail
      go_ret
      exact ⟨by rw [HKi.out]; rfl, HF.out, HW.out⟩

theorem cMarkNodeS (s : Shape) (B cap k : Nat) (f : Nat → Tk) (w : World) (ok : s.Ok B) (hh : HoldsN s w f) (hk : s.K k s.n ≤ 100000000) :
    Calls Tryz.prog 11 #[.slice (some ⟨s.R, s.o, none⟩) s.n cap, .int .i64 k] w fun e w' => e = .returned (.int .i64 (s.K k s.n : Nat)) ∧ HoldsN s w' (fun j => mkTk (s.K k j) (s.len j)) ∧ KeepB (fun b => B ≤ b) w w' :=
  (cMarkNodeH s B cap k f w ok hh hk).mono fun _ _ ⟨h1, h2, h3⟩ => ⟨h1, h2, h3.mono fun _ hb => ok.has hb⟩

set_option maxRecDepth 8000 in
set_option maxHeartbeats 4000000 in
theorem cHeldNodeS (s : Shape) (B cap k : Nat) (w : World) (ok : s.Ok B) (hh : HoldsN s w (fun j => mkTk (s.K k j) (s.len j))) (hk : s.K k s.n ≤ 100000000) :
    Calls Tryz.prog 12 #[.slice (some ⟨s.R, s.o, none⟩) s.n cap, .int .i64 k] w fun e w' => e = .returned (.int .i64 (s.K k s.n : Nat)) ∧ Below w.heap.size w w' := by
  have OK := hid ok
  have HH := hid hh
  clear ok hh
  obtain ⟨n, hn⟩ : ∃ n, s.n = n := ⟨_, rfl⟩
  have HN := hid hn
  have HK := hid hk
  have hnb : n ≤ 100000000 := by have := s.K_ge k s.n; omega
  rw [hn]
  obtain ⟨R, hR⟩ : ∃ R, s.R = R := ⟨_, rfl⟩
  obtain ⟨o, ho⟩ : ∃ o, s.o = o := ⟨_, rfl⟩
  have HRR := hid hR
  have HO := hid ho
  rw [hR, ho]
  clear hn hk hR ho
  go_enter Tryz.func12, Tryz.ntmps12
  go_wp2
  go_loopw [1, 5] (fun x y wr => ∃ i K : Nat, x = .int .i64 (K : Int) ∧ y = .int .i64 (i : Int) ∧ i ≤ n ∧ Hid (K = s.K k i) ∧ Hid (Below w.heap.size w wr)) (fun _ y _ => n - (intOf y).toNat)
  case atStart => exact ⟨0, k, rfl, rfl, Nat.zero_le _, rfl, Below.refl _ _⟩
  case round =>
    obtain ⟨i, K, rfl, rfl, hi, HKi, HB⟩ := hrel
    by_cases hlt : i < n
    · have his : i < s.n := by rw [HN.out]; exact hlt
      have hin : (i : Int) < (n : Int) := by omega
      obtain ⟨L, hL⟩ : ∃ L, s.len i = L := ⟨_, rfl⟩
      have HL := hid hL
      have HK1 := hid (show s.K k (i + 1) = K + (3 + 2 * L) by rw [HKi.out, ← hL]; rfl)
      have hKb : K + 3 + 2 * L ≤ 100000000 := by
        have h1 := s.K_le k (i + 1) s.n (by omega)
        have h2 := HK.out
        rw [HK1.out] at h1
        omega
      have HHr := hid (HH.out.below HB.out)
      obtain ⟨cur, hcur, hr⟩ := HHr.out.row
      have t := hr i his
      have har := HHr.out.atRow OK.out i his
      rw [← HKi.out, HL.out] at t har
      rw [HRR.out] at hcur
      rw [HO.out] at t
      have hb : R < wr.heap.size := lt_of_heap hcur
      have c0 : wr.cell? ⟨R, o + i * 4, none⟩ = some (.int .i64 (K : Int)) := by rw [Lib.cell_of_heap hcur]; exact t.c0
      have c1 : wr.cell? ⟨R, o + i * 4 + 1, none⟩ = some (.string (markS (K + 1))) := by rw [Lib.cell_of_heap hcur]; exact t.c1
      have c2 : wr.cell? ⟨R, o + i * 4 + 2, none⟩ = some (.slice (s.aa i) L (s.C i)) := by
        rw [Lib.cell_of_heap hcur]
        have := t.c2
        rw [show (mkTk K L).attrs.length = L from mkAts_len _ _] at this
        exact this
      have c3 : wr.cell? ⟨R, o + i * 4 + 3, none⟩ = some (.string (markS (K + 2 + 2 * L))) := by rw [Lib.cell_of_heap hcur]; exact t.c3
      have HAR := hid (show AtRow wr (s.aa i) (mkAts (K + 2) L) from har)
      have C1 := fun w => cMarkText (K + 1) (by omega) w
      have CA := fun (w : World) (h : AtRow w (s.aa i) (mkAts (K + 2) L)) => cHeldAttrS (s.aa i) (s.C i) (K + 2) (mkAts (K + 2) L) w h (fun j hj => mkAts_get _ _ j hj) (by rw [mkAts_len]; omega)
      have C3 := fun w => cMarkText (K + 2 + 2 * L) (by omega) w
      rw [mkAts_len] at CA
      have s1 := markS_size (K + 1)
      have s3 := markS_size (K + 2 + 2 * L)
      obtain ⟨X, hX⟩ : ∃ X, markS (K + 1) = X := ⟨_, rfl⟩
      obtain ⟨Y, hY⟩ : ∃ Y, markS (K + 2 + 2 * L) = Y := ⟨_, rfl⟩
      rw [hX] at c1 C1 s1
      rw [hY] at c3 C3 s3
      obtain ⟨M, hM⟩ : ∃ M, K + 2 + 2 * L = M := ⟨_, rfl⟩
      have HM := hid hM
      have hMb : M ≤ 100000000 := by omega
      rw [hM] at CA C3 s3
      have q1 : (X.toList != X.toList) = false := by simp
      have q3 : (Y.toList != Y.toList) = false := by simp
      clear hr t har hcur hX hY hM hL
      obtain ⟨d0, d1, d2, d3⟩ := quad_bw hb c0 c1 c2 c3
      have HNB := hid (bw_any wr)
      go_wp2_with fail
      haveI := HNB.out
      refine wp_region_below (by kernel_rfl) (by kernel_rfl) (Below.refl wr.heap.size wr) ?_
      repeat (go_big_quiet_step ((go_at_call 25; exact calls_bw _ (C1 _))))
      refine wpQuiet_nil ?_
      intro w2 hw'
      obtain ⟨⟨wx, hb2⟩, hw''⟩ := hw'
      subst hw''
      have HB2 := hid (bb HB.out hb2)
      have HAR2 := hid (HAR.out.below hb2)
      have e2 : w2.cell? ⟨R, o + i * 4 + 2, none⟩ = some (.slice (s.aa i) L (s.C i)) := (hb2.cell (p := ⟨R, o + i * 4 + 2, none⟩) hb).trans c2
      have e3 : w2.cell? ⟨R, o + i * 4 + 3, none⟩ = some (.string Y) := (hb2.cell (p := ⟨R, o + i * 4 + 3, none⟩) hb).trans c3
      have hb' : R < w2.heap.size := Nat.lt_of_lt_of_le hb hb2.size
      clear this HNB d0 d1 d2 d3 c0 c1 c2 c3 C1 hb2 HAR
      go_wp2_with fail
      refine (CA _ HAR2.out).mono ?_
      rintro e w3 ⟨rfl, hb3⟩
      have HB3 := hid (bb HB2.out hb3)
      have e3' : w3.cell? ⟨R, o + i * 4 + 3, none⟩ = some (.string Y) := (hb3.cell (p := ⟨R, o + i * 4 + 3, none⟩) hb').trans e3
      have hb'' : R < w3.heap.size := Nat.lt_of_lt_of_le hb' hb3.size
      clear CA hb3 e2 e3
      have d3 := fun p : BW w3 => (p.h.cell (p := ⟨R, o + i * 4 + 3, none⟩) hb'').trans e3'
      have HNB := hid (bw_any w3)
      go_wp2_with fail
      haveI := HNB.out
      refine wp_region_below (by kernel_rfl) (by kernel_rfl) (Below.refl w3.heap.size w3) ?_
      repeat (go_big_quiet_step ((go_at_call 25; exact calls_bw _ (C3 _))))
      refine wpQuiet_nil ?_
      intro w4 hw'
      obtain ⟨⟨wx, hb4⟩, hw''⟩ := hw'
      subst hw''
      have HB4 := hid (bb HB3.out hb4)
      clear this HNB d3 C3 hb4 e3'
      go_wp2_with fail
      go_roundw
      case rel => exact ⟨i + 1, M + 1, by go_num, by go_num, by omega, (show M + 1 = s.K k (i + 1) by rw [HK1.out, ← HM.out]; omega), HB4.out⟩
      case measure => simp [intOf]; omega
    · have hie : i = n := by omega
      subst hie
      go_wp2_with fail
      go_ret
      exact ⟨by rw [HKi.out]; rfl, HB.out⟩

end Go.Proofs.YtcjeodgfpnecgaaGreatDoor.Nd

namespace Go.Proofs.YtcjeodgfpnecgaaGreatDoor.Nd
open Go.RowKit
set_option linter.unusedVariables false
set_option linter.unusedSimpArgs false

def atT (ts : List Tk) (j : Nat) : Tk := match ts[j]? with | some t => t | none => ⟨0, ⟨#[]⟩, [], ⟨#[]⟩⟩

theorem atT_at {ts : List Tk} {j : Nat} (h : j < ts.length) : atT ts j = ts[j] := by unfold atT; rw [List.getElem?_eq_getElem h]

def shL (g : Nat) (G : Nat → Nat) (ts : List Tk) : Shape where
  R := g
  o := 0
  n := ts.length
  len := fun j => (atT ts j).attrs.length
  aa := fun j => some ⟨G j, 0, none⟩
  A := G
  O := fun _ => 0
  C := fun j => (atT ts j).attrs.length

theorem Laid.shape {ts : List Tk} {g : Nat} {G : Nat → Nat} {cur : Array Value} {w : World} (h : Laid ts g ts.length G cur w) (hh : w.heap[g]? = some (.cells cur 44 (0, 0))) : (shL g G ts).Ok g ∧ HoldsN (shL g G ts) w (atT ts) := by
  refine ⟨⟨Nat.le_refl _, fun j hj hl => ?_, fun i j hi hj hne _ _ e => ?_⟩, ⟨⟨cur, hh, fun j hj => ?_⟩, fun j hj => rfl, fun j hj hl => ?_⟩⟩
  · have := (h.row j hj hj).1
    exact ⟨rfl, by show g ≤ G j; omega, by show ¬ G j = g; omega⟩
  · have e : G i = G j := e
    rcases Nat.lt_or_gt_of_ne hne with h' | h'
    · have := h.later i j h' hj
      omega
    · have := h.later j i h' hi
      omega
  · obtain ⟨k0, k1, k2, k3⟩ := h.cells j hj hj
    have e := atT_at (ts := ts) hj
    rw [show (shL g G ts).o + j * 4 = j * 4 from Nat.zero_add _]
    exact ⟨by rw [e]; exact k0, by rw [e]; exact k1, by rw [show (shL g G ts).C j = ts[j].attrs.length from by show (atT ts j).attrs.length = _; rw [e], e]; exact k2, by rw [e]; exact k3⟩
  · obtain ⟨_, cu, h1, h2⟩ := h.row j hj hj
    refine ⟨cu, h1, ?_⟩
    rw [atT_at hj]
    exact h2

theorem shL_K (g : Nat) (G : Nat → Nat) (ts : List Tk) (k : Nat) : ∀ m, m ≤ ts.length → (shL g G ts).K k m = k + 3 * m + 2 * sumA (ts.take m)
  | 0, _ => rfl
  | m + 1, h => by
    show (shL g G ts).K k m + (3 + 2 * (atT ts m).attrs.length) = _
    rw [shL_K g G ts k m (by omega), take_snocN (show m < ts.length by omega), sumA_snoc, atT_at (show m < ts.length by omega)]
    omega

def shR (g : Nat) (es : List E) : Shape where
  R := g
  o := 0
  n := es.length
  len := fun j => match es[j]? with | some e => e.t.attrs.length | none => 0
  aa := fun j => match es[j]? with | some e => e.a | none => none
  A := fun j => match es[j]? with | some ⟨_, some ad, _⟩ => ad.block | _ => 0
  O := fun j => match es[j]? with | some ⟨_, some ad, _⟩ => ad.off | _ => 0
  C := fun j => match es[j]? with | some e => e.cap | none => 0

def eAt (es : List E) (j : Nat) : Tk := match es[j]? with | some e => e.t | none => ⟨0, ⟨#[]⟩, [], ⟨#[]⟩⟩

theorem eAt_map {es : List E} {ts : List Tk} (h : es.map (·.t) = ts) (j : Nat) (hj : j < ts.length) : eAt es j = ts[j] := by
  have hl : es.length = ts.length := by rw [← h, List.length_map]
  unfold eAt
  rw [List.getElem?_eq_getElem (by omega)]
  subst h
  simp

theorem shR_at (g : Nat) (es : List E) (j : Nat) (hj : j < es.length) : (shR g es).len j = es[j].t.attrs.length ∧ (shR g es).aa j = es[j].a ∧ (shR g es).C j = es[j].cap ∧ eAt es j = es[j].t
    ∧ ∀ b o, es[j].a = some ⟨b, o, none⟩ → (shR g es).A j = b ∧ (shR g es).O j = o := by
  have he := List.getElem?_eq_getElem hj
  refine ⟨?_, ?_, ?_, ?_, fun b o hb => ?_⟩
  · show (match es[j]? with | some e => e.t.attrs.length | none => 0) = _
    rw [he]
  · show (match es[j]? with | some e => e.a | none => none) = _
    rw [he]
  · show (match es[j]? with | some e => e.cap | none => 0) = _
    rw [he]
  · unfold eAt
    rw [he]
  · obtain ⟨x, hx⟩ : ∃ x, es[j] = x := ⟨_, rfl⟩
    rw [hx] at he hb
    obtain ⟨t, a, c⟩ := x
    simp only at hb
    subst hb
    exact ⟨by show (match es[j]? with | some ⟨_, some ad, _⟩ => ad.block | _ => 0) = _; rw [he], by show (match es[j]? with | some ⟨_, some ad, _⟩ => ad.off | _ => 0) = _; rw [he]⟩

theorem Row.shape {w : World} {B : Nat} {v : Value} {es : List E} (h : Row w B v es) (hne : ¬ es = []) :
    ∃ (g : Nat) (cap : Nat), v = .slice (some ⟨g, 0, none⟩) es.length cap ∧ (shR g es).Ok B ∧ HoldsN (shR g es) w (eAt es) := by
  rcases h.own.2 with ⟨_, h0⟩ | ⟨g, cap, cur, rfl, hg, hh, hn, hc, hs, ht⟩
  · exact absurd (List.eq_nil_of_length_eq_zero h0) hne
  · refine ⟨g, cap, rfl, ⟨hg, fun j hj hl => ?_, fun i j hi hj hne hl hl' => ?_⟩, ⟨⟨cur, hh, fun j hj => ?_⟩, fun j hj => ?_, fun j hj hl => ?_⟩⟩
    · obtain ⟨s1, s2, s3, s4, s5⟩ := shR_at g es j hj
      rw [s1] at hl
      obtain ⟨b, o, cu, e, hB, _⟩ := (h.ats _ (List.getElem_mem hj)).1 hl
      obtain ⟨s6, s7⟩ := s5 b o e
      rw [s2, s6, s7]
      exact ⟨e, hB, fun x => (h.ats _ (List.getElem_mem hj)).2 b o hl e (by rw [x]; rfl)⟩
    · obtain ⟨s1, s2, s3, s4, s5⟩ := shR_at g es i hi
      obtain ⟨t1, t2, t3, t4, t5⟩ := shR_at g es j hj
      rw [s1] at hl
      rw [t1] at hl'
      obtain ⟨b, o, _, e, _⟩ := (h.ats _ (List.getElem_mem hi)).1 hl
      obtain ⟨b', o', _, e', _⟩ := (h.ats _ (List.getElem_mem hj)).1 hl'
      rw [(s5 b o e).1, (t5 b' o' e').1]
      have hi : i < es.length := hi
      have hj : j < es.length := hj
      rcases Nat.lt_or_gt_of_ne hne with h' | h'
      · exact List.pairwise_iff_getElem.1 h.apart i j hi hj h' hl hl' b o b' o' e e'
      · exact fun x => List.pairwise_iff_getElem.1 h.apart j i hj hi h' hl' hl b' o' b o e' e x.symm
    · obtain ⟨s1, s2, s3, s4, s5⟩ := shR_at g es j hj
      obtain ⟨k0, k1, k2, k3⟩ := cs_get es j hj
      have hx : ∀ k u, (cs es)[k]? = some u → cur[0 + k]? = some u := by
        intro k u hk
        rw [Nat.zero_add, ← Array.getElem?_toList]
        rw [← ht, List.getElem?_take] at hk
        split at hk
        · exact hk
        · cases hk
      rw [s2, s3, s4]
      exact ⟨hx _ _ k0, hx _ _ k1, hx _ _ k2, hx _ _ k3⟩
    · obtain ⟨s1, s2, s3, s4, s5⟩ := shR_at g es j hj
      rw [s4, s1]
    · obtain ⟨s1, s2, s3, s4, s5⟩ := shR_at g es j hj
      rw [s1] at hl
      obtain ⟨b, o, cu, e, _, hhb, hcl⟩ := (h.ats _ (List.getElem_mem hj)).1 hl
      obtain ⟨s6, s7⟩ := s5 b o e
      rw [s6, s7, s4]
      exact ⟨cu, hhb, hcl⟩

theorem shR_K (g : Nat) (es : List E) (ts : List Tk) (hm : es.map (·.t) = ts) (k : Nat) : ∀ m, m ≤ ts.length → (shR g es).K k m = k + 3 * m + 2 * sumA (ts.take m)
  | 0, _ => rfl
  | m + 1, h => by
    have hl : es.length = ts.length := by rw [← hm, List.length_map]
    show (shR g es).K k m + (3 + 2 * (shR g es).len m) = _
    have e1 : es[m].t = ts[m] := by subst hm; simp
    rw [shR_K g es ts hm k m (by omega), take_snocN (show m < ts.length by omega), sumA_snoc, (shR_at g es m (by omega)).1, e1]
    omega

theorem Row.keep {w w' : World} {B : Nat} {v : Value} {es : List E} {p : Nat → Prop} (h : Row w B v es) (k : KeepB p w w') (hp : ∀ b, p b → b < B) : Row w' B v es := by
  have key : ∀ b o, B ≤ b → w.heap[b]? = some o → w'.heap[b]? = some o := fun b o hb hh => (k.block b (lt_of_heap hh) (fun x => by have := hp b x; omega)).trans hh
  refine ⟨⟨h.own.1, ?_⟩, fun e he => ⟨fun hl => ?_, (h.ats e he).2⟩, h.apart⟩
  · rcases h.own.2 with h' | ⟨g, cap, cur, h1, h2, h3, h4⟩
    · exact .inl h'
    · exact .inr ⟨g, cap, cur, h1, h2, key g _ h2 h3, h4⟩
  · obtain ⟨g, o, cu, e1, e2, e3, e4⟩ := (h.ats e he).1 hl
    exact ⟨g, o, cu, e1, e2, key g _ e2 e3, e4⟩

theorem cMarkNone (a : Option Addr) (cap k : Nat) (w : World) (hk : k ≤ 100000000) :
    Calls Tryz.prog 11 #[.slice a 0 cap, .int .i64 k] w fun e w' => e = .returned (.int .i64 k) ∧ w' = w := by
  go_enter Tryz.func11, Tryz.ntmps11
  go_wp2
  go_loopw [1, 5] (fun x y wr => x = .int .i64 k ∧ y = .int .i64 0 ∧ wr = w) (fun _ _ _ => 0)
  case atStart => exact ⟨rfl, rfl, rfl⟩
  case round =>
    obtain ⟨rfl, rfl, rfl⟩ := hrel
    go_wp2
    go_ret
    exact ⟨rfl, rfl⟩

theorem cHeldNone (a : Option Addr) (cap k : Nat) (w : World) (hk : k ≤ 100000000) :
    Calls Tryz.prog 12 #[.slice a 0 cap, .int .i64 k] w fun e w' => e = .returned (.int .i64 k) ∧ w' = w := by
  go_enter Tryz.func12, Tryz.ntmps12
  go_wp2
  go_loopw [1, 5] (fun x y wr => x = .int .i64 k ∧ y = .int .i64 0 ∧ wr = w) (fun _ _ _ => 0)
  case atStart => exact ⟨rfl, rfl, rfl⟩
  case round =>
    obtain ⟨rfl, rfl, rfl⟩ := hrel
    go_wp2
    go_ret
    exact ⟨rfl, rfl⟩

end Go.Proofs.YtcjeodgfpnecgaaGreatDoor.Nd
