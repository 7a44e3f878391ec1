/- Rows of numbers, as the exact law of KidsOf compares and marks them. -/
import Derived.Test.YtkcmagfbacmllabWKidT
import Derived.Test.YtkcmagfbacmllabWShapeN
namespace Go.Proofs.Ytkcmagfbacmllab
open Go.RowKit
set_option linter.unusedVariables false
set_option linter.unusedSimpArgs false

/-- Numbers in a row from a on. -/
def IntRow (w : World) (a : Option Addr) (l : List Nat) : Prop := ∀ j (h : j < l.length), ∃ b o, a = some ⟨b, o, none⟩ ∧ b < w.heap.size ∧ w.cell? ⟨b, o + j, none⟩ = some (.int .i64 (l[j] : Int))

theorem IntRow.below {w w' : World} {a : Option Addr} {l : List Nat} (h : IntRow w a l) (hb : Below w.heap.size w w') : IntRow w' a l := by
  intro j hj
  obtain ⟨b, o, ha, hlt, c⟩ := h j hj
  exact ⟨b, o, ha, Nat.lt_of_lt_of_le hlt hb.size, (hb.cell (p := ⟨b, o + j, none⟩) hlt).trans c⟩

/-- A row of numbers of our own. -/
theorem own64 {w : World} {B : Nat} {v : Value} {l : List Nat} (h : w.ownsRow B 2 1 v l.length (intC l)) : ∃ a cap, v = .slice a l.length cap ∧ IntRow w a l := by
  rcases h.2 with ⟨rfl, h0⟩ | ⟨g, cap, cur, rfl, hg, hh, hn, hc, hs, ht⟩
  · have : l = [] := List.eq_nil_of_length_eq_zero h0
    subst this
    exact ⟨none, 0, rfl, fun j hj => absurd hj (Nat.not_lt_zero _)⟩
  · refine ⟨_, _, rfl, fun j hj => ⟨g, 0, rfl, lt_of_heap hh, ?_⟩⟩
    obtain ⟨g', cap', e, _, c⟩ := (row64 ⟨h.1, .inr ⟨g, cap, cur, rfl, hg, hh, hn, hc, hs, ht⟩⟩).2 j hj
    cases e
    rw [Nat.zero_add]
    exact c

theorem own64_rd {w : World} {B n c : Nat} {a : Option Addr} {l : List Nat} (h : w.ownsRow B 2 1 (.slice a n c) n (intC l)) (hn : l.length = n) : IntRow w a l := by
  subst hn
  obtain ⟨a', c', e, hr⟩ := own64 h
  cases e
  exact hr

theorem row64_keep {w w' : World} {B n : Nat} {v : Value} {xs : List Value} {p : Nat → Prop} {e : TypeId} (h : w.ownsRow B e 1 v n xs) (k : KeepB p w w') (hp : ∀ b, p b → b < B) : w'.ownsRow B e 1 v n xs := by
  refine ⟨h.1, ?_⟩
  rcases h.2 with h' | ⟨g, cap, cur, h1, h2, h3, h4⟩
  · exact .inl h'
  · exact .inr ⟨g, cap, cur, h1, h2, (k.block g (lt_of_heap h3) (fun x => by have := hp g x; omega)).trans h3, h4⟩

set_option maxHeartbeats 2000000 in
theorem cEqInt64S (a c : Option Addr) (cap cap2 : Nat) (l : List Nat) (w : World) (hR : IntRow w a l) (hT : IntRow w c l) (hn : l.length ≤ 1048576) :
    Calls Try.prog 16 #[.slice a l.length cap, .slice c l.length cap2] w fun e w' => e = .returned (.bool true) ∧ Below w.heap.size w w' := by
  have HR := hid hR
  have HT := hid hT
  clear hR hT
  obtain ⟨n, hnn⟩ : ∃ n, l.length = n := ⟨_, rfl⟩
  have HN := hid hnn
  rw [hnn] at hn ⊢
  clear hnn
  go_enter Try.func16, Try.ntmps16
  go_wp2
  go_loopw [5] (fun k wr => ∃ i : Nat, k = .int .i64 (i : Int) ∧ i ≤ n ∧ Hid (Below w.heap.size w wr)) (fun k _ => n - (intOf k).toNat)
  case atStart => exact ⟨0, rfl, Nat.zero_le _, Below.refl _ _⟩
  case round =>
    obtain ⟨i, rfl, hi, HB⟩ := hrel
    by_cases hlt : i < n
    · have his : i < l.length := by rw [HN.out]; exact hlt
      have hin : (i : Int) < (n : Int) := by omega
      obtain ⟨b, o, rfl, hb, c1⟩ := HR.out.below HB.out i his
      obtain ⟨b2, o2, rfl, hb', k1⟩ := HT.out.below HB.out i his
      generalize l[i] = x at *
      have hd : ((x : Int) == (x : Int)) = true := by simp
      go_wp2_with fail
      go_quiet (fail)
      go_wp2_with fail
      go_roundw
      case rel => exact ⟨i + 1, by go_num, by omega, below_drewN HB.out _⟩
      case measure => simp [intOf]; omega
    · have hie : i = n := by omega
      subst hie
      go_wp2_with fail
      go_ret
      exact ⟨rfl, HB.out⟩

/-- The marks from k on. -/
def MarksI (cur : Array Value) (n k : Nat) : Prop := ∀ j, j < n → cur[j]? = some (.int .i64 ((k + j : Nat) : Int))

set_option maxHeartbeats 2000000 in
theorem cMarkInt64S (g cap n k : Nat) (cur0 : Array Value) (w : World) (hg : w.heap[g]? = some (.cells cur0 2 (0, 0))) (hs : n ≤ cur0.size) (hk : k + n ≤ 100000000) :
    Calls Try.prog 18 #[.slice (some ⟨g, 0, none⟩) n cap, .int .i64 k] w fun e w' => e = .returned (.int .i64 ((k + n : Nat) : Int)) ∧ (∃ cur, w'.heap[g]? = some (.cells cur 2 (0, 0)) ∧ MarksI cur n k) ∧ w.grownBy w' (some g) := by
  have HG := hid hg
  clear hg
  go_enter Try.func18, Try.ntmps18
  go_wp2
  go_loopw [1, 5] (fun x y wr => ∃ (i : Nat) (cur : Array Value), x = .int .i64 ((k + i : Nat) : Int) ∧ y = .int .i64 (i : Int) ∧ i ≤ n ∧ Hid (wr.heap[g]? = some (.cells cur 2 (0, 0)) ∧ cur.size = cur0.size ∧ MarksI cur i k ∧ w.grownBy wr (some g))) (fun _ y _ => n - (intOf y).toNat)
  case atStart => exact ⟨0, cur0, rfl, rfl, Nat.zero_le _, HG.out, rfl, fun j h => by omega, World.grownBy.refl _ _⟩
  case round =>
    obtain ⟨i, cur, rfl, rfl, hi, HX⟩ := hrel
    obtain ⟨hh, hcs, hm, hgr⟩ := HX.out
    by_cases hlt : i < n
    · have hin : (i : Int) < (n : Int) := by omega
      obtain ⟨ov, k1⟩ : ∃ v, wr.cell? ⟨g, i, none⟩ = some v := by
        rw [Lib.cell_of_heap hh]
        exact ⟨cur[i]'(by omega), Array.getElem?_eq_getElem (by omega)⟩
      have f1 : wr.frozen? ⟨g, i, none⟩ = false := Lib.frozen_of_heap hh _
      have HH2 := hid (show (wr.setCell ⟨g, i, none⟩ (.int .i64 ((k + i : Nat) : Int))).heap[g]? = some (.cells (cur.setIfInBounds i (.int .i64 ((k + i : Nat) : Int))) 2 (0, 0)) by simp [World.setCell, Array.getElem?_modify, hh])
      have HM2 := hid (show MarksI (cur.setIfInBounds i (.int .i64 ((k + i : Nat) : Int))) (i + 1) k from fun j hj => by
        rw [Array.getElem?_setIfInBounds]
        by_cases e : i = j
        · subst e
          rw [if_pos rfl, if_pos (by omega)]
        · rw [if_neg e]
          exact hm j (by omega))
      have HG2 := hid (hgr.trans (Lib.grownBy_setCell wr g i (.int .i64 ((k + i : Nat) : Int))))
      have HC2 := hid (show (cur.setIfInBounds i (.int .i64 ((k + i : Nat) : Int))).size = cur0.size by simp [hcs])
      clear hh hm hgr HX
      obtain ⟨K, hK⟩ : ∃ K : Nat, k + i = K := ⟨_, rfl⟩
      have HK := hid hK
      have hKb : K ≤ 100000000 := by omega
      rw [hK] at HH2 HM2 HG2 HC2 ⊢
      clear hK
      go_wp2_with fail
      go_roundw
      case rel => exact ⟨i + 1, _, by rw [show k + (i + 1) = K + 1 by have := HK.out; omega]; go_num, by go_num, by omega, HH2.out, HC2.out, HM2.out, HG2.out⟩
      case measure => simp [intOf]; omega
    · have hie : i = n := by omega
      subst hie
      have H1 := hid (show ∃ cur, wr.heap[g]? = some (.cells cur 2 (0, 0)) ∧ MarksI cur i k from ⟨cur, hh, hm⟩)
      have H2 := hid hgr
      clear hh hm hgr HX
      obtain ⟨K, hK⟩ : ∃ K : Nat, k + i = K := ⟨_, rfl⟩
      have HK := hid hK
      rw [hK]
      clear hK
      go_wp2_with fail
      go_ret
      exact ⟨by rw [HK.out]; rfl, H1.out, H2.out⟩

set_option maxHeartbeats 2000000 in
theorem cHeldInt64S (a : Option Addr) (cap k : Nat) (l : List Nat) (w : World) (hR : IntRow w a l) (hm : ∀ j (h : j < l.length), l[j] = k + j) (hk : k + l.length ≤ 100000000) :
    Calls Try.prog 19 #[.slice a l.length cap, .int .i64 k] w fun e w' => e = .returned (.int .i64 ((k + l.length : Nat) : Int)) ∧ w' = w := by
  have HR := hid hR
  have HM := hid hm
  clear hR hm
  obtain ⟨n, hnn⟩ : ∃ n, l.length = n := ⟨_, rfl⟩
  have HN := hid hnn
  rw [hnn] at hk ⊢
  clear hnn
  go_enter Try.func19, Try.ntmps19
  go_wp2
  go_loop [1, 5] (fun x y => ∃ i : Nat, x = .int .i64 ((k + i : Nat) : Int) ∧ y = .int .i64 (i : Int) ∧ i ≤ n) (fun _ y => n - (intOf y).toNat)
  case atStart => exact ⟨0, rfl, rfl, Nat.zero_le _⟩
  case round =>
    obtain ⟨i, rfl, rfl, hi⟩ := hrel
    obtain ⟨K, hK⟩ : ∃ K : Nat, k + i = K := ⟨_, rfl⟩
    have HK := hid hK
    have hKb : K ≤ 100000000 := by omega
    by_cases hlt : i < n
    · have his : i < l.length := by rw [HN.out]; exact hlt
      have hin : (i : Int) < (n : Int) := by omega
      obtain ⟨b, o, rfl, hb, c1⟩ := HR.out i his
      rw [HM.out i his, hK] at c1
      rw [hK]
      clear hK
      have hd : ((K : Int) == (K : Int)) = true := by simp
      go_wp2_with fail
      go_round
      case rel => exact ⟨i + 1, by rw [show k + (i + 1) = K + 1 by have := HK.out; omega]; go_num, by go_num, by omega⟩
      case measure => simp [intOf]; omega
    · have hie : i = n := by omega
      subst hie
      rw [hK]
      clear hK
      go_wp2_with fail
      go_ret
      exact ⟨by first | (rw [HK.out]; rfl) | (rw [show ((k : Int) + (i : Int)) = (K : Int) from (by have := HK.out; omega)]; rfl), rfl⟩

/-- The marks from 1 on. -/
def mkI (n : Nat) : List Nat := (List.range n).map fun j => 1 + j

theorem mkI_len (n : Nat) : (mkI n).length = n := by simp [mkI]

theorem mkI_at (n j : Nat) (h : j < (mkI n).length) : (mkI n)[j] = 1 + j := by simp [mkI]

theorem MarksI.row {w : World} {g n : Nat} {cur : Array Value} {T : TypeId} (h : MarksI cur n 1) (hh : w.heap[g]? = some (.cells cur T (0, 0))) : IntRow w (some ⟨g, 0, none⟩) (mkI n) := by
  intro j hj
  refine ⟨g, 0, rfl, lt_of_heap hh, ?_⟩
  rw [Lib.cell_of_heap hh, mkI_at n j hj, Nat.zero_add]
  rw [mkI_len] at hj
  exact h j hj

theorem kidsI_len (ts : List Tk) (x : Int) : (kidsI ts x).length ≤ ts.length := by
  unfold kidsI
  split
  · exact kidsTo_len ts _ _
  · exact Nat.zero_le _

/-- The blocks of a copy: from its own on, and there. -/
theorem Nd.Laid.hasI {ts : List Tk} {g : Nat} {G : Nat → Nat} {cur : Array Value} {w : World} (h : Nd.Laid ts g ts.length G cur w) (hh : w.heap[g]? = some (.cells cur 44 (0, 0))) : ∀ b, (Nd.shL g G ts).Has b → g ≤ b ∧ b < w.heap.size := by
  rintro b (rfl | ⟨j, hj, _, rfl⟩)
  · exact ⟨Nat.le_refl _, lt_of_heap hh⟩
  · obtain ⟨h1, cu, h2, _⟩ := h.row j hj hj
    have h3 := lt_of_heap h2
    exact ⟨by show g ≤ G j; omega, by show G j < w.heap.size; omega⟩

theorem cMarkInt0 (a : Option Addr) (cap k : Nat) (w : World) (hk : k ≤ 100000000) :
    Calls Try.prog 18 #[.slice a 0 cap, .int .i64 k] w fun e w' => e = .returned (.int .i64 k) ∧ w' = w := by
  go_enter Try.func18, Try.ntmps18
  go_wp2
  go_loopw [1, 5] (fun x y wr => x = .int .i64 k ∧ y = .int .i64 0 ∧ wr = w) (fun _ _ _ => 0)
  case atStart => exact ⟨rfl, rfl, rfl⟩
  case round =>
    obtain ⟨rfl, rfl, rfl⟩ := hrel
    go_wp2
    go_ret
    exact ⟨rfl, rfl⟩

end Go.Proofs.Ytkcmagfbacmllab
