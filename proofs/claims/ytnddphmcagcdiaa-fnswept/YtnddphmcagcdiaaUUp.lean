/- The heap of rows: up. -/
import Derived.Test.YtnddphmcagcdiaaUWai
namespace Go.Proofs.Ytnddphmcagcdiaa
open Go.RowKit
set_option linter.unusedVariables false
set_option linter.unusedSimpArgs false

theorem take_cells {cu : Array Value} {l : List Ro} (h : RoCells cu 0 l) (hs : l.length * 2 ≤ cu.size) : cu.toList.take (l.length * 2) = roC l := by
  apply List.ext_getElem?
  intro m
  rw [List.getElem?_take]
  by_cases hm : m < l.length * 2
  · rw [if_pos hm]
    obtain ⟨k, hk⟩ : ∃ k, k = m / 2 := ⟨_, rfl⟩
    have hkl : k < l.length := by omega
    obtain ⟨c0, c1⟩ := h k hkl
    obtain ⟨g0, g1⟩ := roC_get l k hkl
    rw [Nat.zero_add] at c0 c1
    rcases (show m = k * 2 ∨ m = k * 2 + 1 by omega) with rfl | rfl
    · rw [g0, ← c0, Array.getElem?_toList]
    · rw [g1, ← c1, Array.getElem?_toList]
  · rw [if_neg hm, List.getElem?_eq_none (by rw [roC_len]; omega)]

/-- The heap's box and its rows. -/
structure Wt (w : World) (B R g c : Nat) (l : List Ro) : Prop where
  box : w.heap[R]? = some (.cells #[.slice (some ⟨g, 0, none⟩) l.length c] 49 (0, 0))
  own : w.ownsRow B 33 2 (.slice (some ⟨g, 0, none⟩) l.length c) l.length (roC l)

theorem Wt.ne {w : World} {B R g c : Nat} {l : List Ro} (h : Wt w B R g c l) : ¬ g = R := fun e => by
  subst e
  rcases h.own.2 with ⟨e1, _⟩ | ⟨g', cp, cur, e1, _, k2, _⟩
  · cases e1
  · injection e1 with e1
    injection e1 with e1
    injection e1 with e1
    subst e1
    have := h.box
    rw [this] at k2
    injection k2 with k2
    injection k2 with _ ht
    exact absurd ht (by decide)

theorem Wt.cells {w : World} {B R g c : Nat} {l : List Ro} (h : Wt w B R g c l) (h0 : 0 < l.length) : ∃ cu, w.heap[g]? = some (.cells cu 33 (0, 0)) ∧ RoCells cu 0 l := by
  obtain ⟨a', c', e, ho⟩ := own_ro h.own rfl
  cases e
  obtain ⟨g', o', cu, e', _, h1, h2⟩ := ho h0
  rcases h.own.2 with ⟨e1, e2⟩ | ⟨g2, cp, cur, e1, _, k2, _⟩
  · cases e1
  · cases e1
    cases e'
    exact ⟨cu, h1, h2⟩

theorem Wt.swap {w : World} {B R g c : Nat} {l : List Ro} (h : Wt w B R g c l) (i j : Nat) (hi : i < l.length) (hj : j < l.length) : Wt (swW w g i j l[i].id l[j].id l[i].til l[j].til) B R g c (swR l i j hi hj) := by
  have hne := h.ne
  obtain ⟨cu, h1, h2⟩ := h.cells (by omega)
  have hk := swW_keep w g i j l[i].id l[j].id l[i].til l[j].til
  refine ⟨?_, ?_⟩
  · rw [swR_len]
    exact (hk.block R (lt_of_heap h.box) (fun e => hne e.symm)).trans h.box
  · rcases h.own.2 with ⟨e1, e2⟩ | ⟨g2, cp, cur, e1, k1, k2, k3, k4, k5, k6⟩
    · cases e1
    · cases e1
      rw [h1] at k2
      injection k2 with k2
      injection k2 with k2
      subst k2
      have hw := swW_heap i j l[i].id l[j].id l[i].til l[j].til h1
      have hc := cells_sw h2 hi hj
      rw [swR_len]
      refine ⟨by rw [roC_len, swR_len], .inr ⟨g, c, _, rfl, k1, hw, k3, k4, ?_, ?_⟩⟩
      · simpa using k5
      · have := take_cells hc (by rw [swR_len]; have := congrArg List.length k6; rw [List.length_take, roC_len] at this; simp; simp at this; omega)
        rw [swR_len] at this
        exact this

theorem Wt.row {w : World} {B R g c : Nat} {l : List Ro} (h : Wt w B R g c l) : RoRow w (some ⟨g, 0, none⟩) l := by
  obtain ⟨a', c', e, ho⟩ := own_ro h.own rfl
  cases e
  exact ho.row

theorem Wt.below {w w' : World} {B R g c : Nat} {l : List Ro} (h : Wt w B R g c l) (hb : Below w.heap.size w w') : Wt w' B R g c l := ⟨u_blk_below h.box hb, ownsRow_below h.own hb⟩

theorem swF_comm (f : Nat → Int) (i j : Nat) : swF f i j = swF f j i := by
  funext k
  by_cases h1 : k = i
  · subst h1
    rw [swF_l, swF_r]
  · by_cases h2 : k = j
    · subst h2
      rw [swF_r, swF_l]
    · rw [swF_o h1 h2, swF_o h2 h1]

/-- What up and down leave. -/
def HeapPost (B R g c : Nat) (l : List Ro) (Q : List Ro → Prop) (w w' : World) : Prop := ∃ l' : List Ro, l'.Perm l ∧ Q l' ∧ Wt w' B R g c l' ∧ u_KeepB (fun k => k = g) w w'

set_option maxRecDepth 8000 in
set_option maxHeartbeats 8000000 in
theorem cUp (B R g c : Nat) (l : List Ro) (j : Nat) (w : World) (hW : Wt w B R g c l) (hj : j < l.length) (hU : UpOk (keyF l) l.length j) (hn : l.length ≤ 100000) :
    Calls Try.prog 46 #[.iface 51 (.pointer (some ⟨R, 0, none⟩)), .int .i64 (j : Int)] w fun e w' => e = .returned (.tuple #[]) ∧ HeapPost B R g c l (fun l' => HeapF (keyF l') l'.length) w w' := by
  have nl := fun wx => nil_less R wx
  have ns := fun wx => nil_swap R wx
  have HW := hid hW
  have HU := hid hU
  obtain ⟨n, hnn⟩ : ∃ n, l.length = n := ⟨_, rfl⟩
  have HN := hid hnn
  rw [hnn] at hj hn
  clear hW hU hnn
  go_enter Try.func46, Try.ntmps46
  go_wp2_with fail
  go_loopw [1] (fun v wr => ∃ (i : Nat) (m : List Ro), v = .int .i64 (i : Int) ∧ i < n ∧ Hid (m.length = n) ∧ Hid (m.Perm l) ∧ Hid (UpOk (keyF m) m.length i) ∧ Hid (Wt wr B R g c m) ∧ Hid (u_KeepB (fun k => k = g) w wr)) (fun v _ => (intOf v).toNat)
  case atStart => exact ⟨j, l, rfl, hj, HN.out, List.Perm.refl _, HU.out, HW.out, u_KeepB.refl _ _⟩
  case round =>
    clear HW HU hj HN
    obtain ⟨i, m, rfl, hi, HN, HP, HU, HW, HK⟩ := hrel
    by_cases h0 : i = 0
    case pos =>
      subst h0
      go_wp2_with fail
      go_end0
      exact ⟨rfl, m, HP.out, up_end HU.out (.inl rfl), HW.out, HK.out⟩
    obtain ⟨p, hp⟩ : ∃ p, (i - 1) / 2 = p := ⟨_, rfl⟩
    have hpi : p < i := by omega
    have hq : Int.tdiv ((i : Int) - 1) 2 = (p : Int) := by rw [Int.tdiv_eq_ediv_of_nonneg (by omega)]; omega
    have hw1 : IntKind.i64.wrap ((i : Int) - 1) = (i : Int) - 1 := IntWalk.i64_in _ (by omega)
    have hw2 : IntKind.i64.wrap (p : Int) = (p : Int) := IntWalk.i64_in _ (by omega)
    have hne : ¬ (p : Int) = (i : Int) := by omega
    have him : i < m.length := by rw [HN.out]; exact hi
    have hpm : p < m.length := by omega
    have HPI := hid (And.intro h0 hp)
    have ml := meth_less R _ wr (by rw [Lib.cell_of_heap HW.out.box]; rfl)
    have CL := hid (cWLess (some ⟨g, 0, none⟩) c m i p wr HW.out.row him hpm)
    have CS := hid (fun (wx : World) (h : Wt wx B R g c m) => (show RoRow wx (some ⟨g, 0, none⟩) m from h.row))
    rw [HN.out] at ml CL
    clear h0 hp
    obtain ⟨D, hD⟩ : ∃ D, decide (m[i].til < m[p].til) = D := ⟨_, rfl⟩
    have HD := hid hD
    rw [hD] at CL
    clear hD
    go_wp2_with fail
    refine CL.out.mono ?_
    rintro e w2 ⟨rfl, hb2⟩
    have HW2 := hid (HW.out.below hb2)
    have HK2 := hid (HK.out.trans (u_KeepB.of_below _ hb2))
    clear hb2 CL HK HW ml CS
    cases D with
    | false =>
      have HF := hid (show HeapF (keyF m) m.length from up_end HU.out (.inr (by
        have h1 := of_decide_eq_false HD.out
        rw [HPI.out.2, keyF_lt him, keyF_lt hpm]
        omega)))
      go_wp2_with fail
      go_end0
      exact ⟨rfl, m, HP.out, HF.out, HW2.out, HK2.out⟩
    | true =>
      have HF := hid (show UpOk (keyF (swR m p i hpm him)) (swR m p i hpm him).length p from by
        have h1 := of_decide_eq_true HD.out
        have h2 := up_step HU.out (by have := HPI.out.1; omega) him (by rw [HPI.out.2, keyF_lt him, keyF_lt hpm]; exact h1)
        rw [HPI.out.2] at h2
        rw [swR_key, swR_len, swF_comm]
        exact h2)
      have HP3 := hid ((swR_perm m p i hpm him).trans HP.out)
      have HN3 := hid ((swR_len m p i hpm him).trans HN.out)
      have HW3 := hid (HW2.out.swap p i hpm him)
      have HK3 := hid (HK2.out.trans (swW_keep w2 g p i m[p].id m[i].id m[p].til m[i].til))
      have ms := meth_swap R _ w2 (by rw [Lib.cell_of_heap HW2.out.box]; rfl)
      have hpn : p < n := by omega
      have CS := hid (by
        obtain ⟨cu, hh, hcu⟩ := HW2.out.cells (by omega)
        obtain ⟨q0, q1⟩ := hcu p hpm
        obtain ⟨q2, q3⟩ := hcu i him
        rw [Nat.zero_add] at q0 q1 q2 q3
        exact cWSwap g c n p i m[p].id m[i].id m[p].til m[i].til w2 (by rw [Lib.cell_of_heap hh]; exact q0) (by rw [Lib.cell_of_heap hh]; exact q1) (by rw [Lib.cell_of_heap hh]; exact q2) (by rw [Lib.cell_of_heap hh]; exact q3) (fun o => Lib.frozen_of_heap hh _) hpn hi)
      rw [HN.out] at ms
      clear HW2 HK2 HU HP HD
      go_wp2_with fail
      refine CS.out.mono ?_
      rintro e w3 ⟨rfl, rfl⟩
      have hpx := HPI.out
      clear ms CS
      go_wp2_with fail
      go_roundw
      case rel => exact ⟨p, _, rfl, hpn, HN3.out, HP3.out, HF.out, HW3.out, HK3.out⟩
      case measure => simp [intOf]; omega

end Go.Proofs.Ytnddphmcagcdiaa
