/- Contract of nodeThere of the program. Contracts of EndOf and elementThere of the program. Trees cut and put together: contracts of cut, rest, copiedNodes, without, with, treeAsItIs and changedTree of the program. -/
import Derived.Test.YtikplfghepojiaaM20
import Derived.Test.YtikplfghepojiaaM9
import Derived.Test.YtikplfghepojiaaM10
import Derived.Test.YtikplfghepojiaaM14
namespace Go.Proofs.Ytikplfghepojiaa
open Go.RowKit
set_option linter.unusedVariables false
set_option linter.unusedSimpArgs false

set_option maxHeartbeats 2000000 in
theorem cThere (a : Option Addr) (cap : Nat) (ts : List Tk) (x : Int) (w : World) (hR : TkRow w a ts) (hn : ts.length ≤ 1048576) (hz : TksSz 1048576 ts) :
    Calls Try.prog 32 #[.slice a ts.length cap, .int .i64 x] w fun e w' => e = .returned (.bool (hasB ts x)) ∧ Below w.heap.size w w' := by
  have C := hid (cTreeOkI a cap ts w hR hn hz)
  obtain ⟨n, hnn⟩ : ∃ n, ts.length = n := ⟨_, rfl⟩
  rw [hasB_eq hnn]
  rw [hnn] at C ⊢
  clear hR hz hn hnn
  generalize treeB ts = B at *
  cases q1 : decide (0 ≤ x)
  · rw [Bool.false_and, Bool.and_false]
    go_enter Try.func32, Try.ntmps32
    go_wp2_with fail
    go_ret
    exact ⟨rfl, Below.refl _ _⟩
  · cases q2 : decide (x < (n : Int))
    · rw [Bool.and_false, Bool.and_false]
      go_enter Try.func32, Try.ntmps32
      go_wp2_with fail
      go_ret
      exact ⟨rfl, Below.refl _ _⟩
    · rw [Bool.and_true, Bool.and_true]
      go_enter Try.func32, Try.ntmps32
      go_wp2_with fail
      refine C.out.mono ?_
      rintro e w1 ⟨rfl, hb1⟩
      have HB1 := hid hb1
      clear hb1
      go_wp2_with fail
      go_ret
      exact ⟨rfl, HB1.out⟩

end Go.Proofs.Ytikplfghepojiaa

namespace Go.Proofs.Ytikplfghepojiaa
open Go.RowKit
set_option linter.unusedVariables false
set_option linter.unusedSimpArgs false

set_option maxHeartbeats 4000000 in
theorem cEndOfI (a : Option Addr) (cap : Nat) (ts : List Tk) (x : Int) (w : World) (hR : TkRow w a ts) (hn : ts.length ≤ 1048576) (hz : TksSz 1048576 ts) :
    Calls Try.prog 37 #[.slice a ts.length cap, .int .i64 x] w fun e w' => e = .returned (.int .i64 (endI ts x)) ∧ Below w.heap.size w w' := by
  have C := hid (cThere a cap ts x w hR hn hz)
  have HR := hid hR
  cases q : hasB ts x
  · have e1 : endI ts x = -1 := by unfold endI; rw [q]; rfl
    rw [e1]
    rw [q] at C
    clear hz hR e1
    generalize ts.length = n at *
    go_enter Try.func37, Try.ntmps37
    go_wp2_with fail
    refine C.out.mono ?_
    rintro e w1 ⟨rfl, hb1⟩
    have HB1 := hid hb1
    clear hb1
    go_wp2_with fail
    go_ret
    exact ⟨rfl, HB1.out⟩
  · obtain ⟨_, k, rfl, hk⟩ := hasB_t q
    have e1 : endI ts (k : Int) = (endN ts k : Int) := by unfold endI; rw [q]; rfl
    rw [e1]
    rw [q] at C
    clear hz hR e1 q
    obtain ⟨V, hV⟩ : ∃ V, endN ts k = V := ⟨_, rfl⟩
    have HV := hid hV
    rw [hV]
    clear hV
    obtain ⟨n, hnn⟩ : ∃ n, ts.length = n := ⟨_, rfl⟩
    have HN := hid hnn
    rw [hnn] at hn hk C ⊢
    clear hnn
    go_enter Try.func37, Try.ntmps37
    go_wp2_with fail
    refine C.out.mono ?_
    rintro e w1 ⟨rfl, hb1⟩
    have HB1 := hid hb1
    have HR1 := hid (HR.out.below hb1)
    clear hb1
    go_wp2_with fail
    go_loop [5] (fun v => ∃ e : Nat, v = .int .i64 (e : Int) ∧ k < e ∧ e ≤ n ∧ Hid (∀ j, k < j → j < e → (k : Int) ≤ parI ts j)) (fun v => n - (intOf v).toNat)
    case atStart => exact ⟨k + 1, by go_num, by omega, by omega, fun j h1 h2 => by omega⟩
    case round =>
      obtain ⟨e, rfl, h1, h2, HA⟩ := hrel
      by_cases hlt : e < n
      · have hes : e < ts.length := by rw [HN.out]; exact hlt
        have hin : (e : Int) < (n : Int) := by omega
        obtain ⟨b, o, rfl, c0, _⟩ := HR1.out.kindAt e hes
        by_cases hp : (k : Int) ≤ parI ts e
        · have HA2 := hid (show ∀ j, k < j → j < e + 1 → (k : Int) ≤ parI ts j from fun j g1 g2 => by
            rcases Nat.lt_or_eq_of_le (Nat.le_of_lt_succ g2) with h' | rfl
            · exact HA.out j g1 h'
            · exact hp)
          generalize parI ts e = P at *
          go_wp2
          go_round
          case rel => exact ⟨e + 1, by go_num, by omega, by omega, HA2.out⟩
          case measure => simp [intOf]; omega
        · have HW := hid (show V = e by rw [← HV.out]; exact endN_is h1 (by rw [HN.out]; exact h2) HA.out (.inr (by omega)))
          have hp' : parI ts e < (k : Int) := by omega
          generalize parI ts e = P at *
          go_wp2
          go_ret
          exact ⟨by rw [HW.out]; rfl, HB1.out⟩
      · have hee : e = n := by omega
        have HW := hid (show V = e by rw [← HV.out]; exact endN_is h1 (by rw [HN.out]; exact h2) HA.out (.inl (by rw [HN.out]; exact hee)))
        subst hee
        go_wp2
        go_ret
        exact ⟨by rw [HW.out]; rfl, HB1.out⟩

set_option maxHeartbeats 2000000 in
theorem cElementThere (a : Option Addr) (cap : Nat) (ts : List Tk) (x : Int) (w : World) (hR : TkRow w a ts) (hn : ts.length ≤ 1048576) (hz : TksSz 1048576 ts) :
    Calls Try.prog 38 #[.slice a ts.length cap, .int .i64 x] w fun e w' => e = .returned (.bool (elemB ts x)) ∧ Below w.heap.size w w' := by
  have C := hid (cThere a cap ts x w hR hn hz)
  have HR := hid hR
  clear hR
  cases hh : hasB ts x with
  | false =>
    have HE := hid (show elemB ts x = false by unfold elemB; rw [hh]; rfl)
    rw [HE.out]
    rw [hh] at C
    clear hh HE HR hz
    generalize ts.length = n at *
    go_enter Try.func38, Try.ntmps38
    go_wp2_with fail
    refine C.out.mono ?_
    rintro e w1 ⟨rfl, hb1⟩
    have HB1 := hid hb1
    clear hb1 C
    go_wp2_with fail
    go_ret
    exact ⟨rfl, HB1.out⟩
  | true =>
    obtain ⟨hT, k, rfl, hk⟩ := hasB_t hh
    have HE := hid (show elemB ts (k : Int) = !decide (ts[k].name.size = 0) by unfold elemB; rw [hh]; show (true && !decide ((nameI ts k).size = 0)) = _; rw [nameI_at hk]; rfl)
    rw [HE.out]
    rw [hh] at C
    have HROW := hid (fun wx (hb : Below w.heap.size w wx) => (HR.out.below hb) k hk)
    obtain ⟨b, o, _, _, ea, -⟩ := HR.out k hk
    subst ea
    have hkn : (k : Int) < (ts.length : Int) := by omega
    have CI := hid (fun wx aa nA ca => cIsText ts[k].kind ts[k].name aa nA ca ts[k].text wx (hz _ (List.getElem_mem hk)).1)
    clear hh HE HR hz hT
    generalize decide (ts[k].name.size = 0) = D at *
    generalize ts[k].kind = K at *
    generalize ts[k].name = N at *
    generalize ts[k].text = T at *
    generalize ts[k].attrs = A at *
    generalize ts.length = n at *
    go_enter Try.func38, Try.ntmps38
    go_wp2_with fail
    refine C.out.mono ?_
    rintro e w1 ⟨rfl, hb1⟩
    obtain ⟨b', o', aa, ca, e', hb, q0, q1, q2, q3, _⟩ := HROW.out _ hb1
    obtain ⟨rfl, rfl⟩ : b = b' ∧ o = o' := by cases e'; exact ⟨rfl, rfl⟩
    have HB1 := hid hb1
    clear hb1 C e' HROW
    go_wp2_with fail
    refine (CI.out _ _ _ _).mono ?_
    rintro e w2 ⟨rfl, hb2⟩
    have HB2 := hid (bb HB1.out hb2)
    clear hb2
    go_wp2_with fail
    go_ret
    exact ⟨rfl, HB2.out⟩

end Go.Proofs.Ytikplfghepojiaa

namespace Go.Proofs.Ytikplfghepojiaa
open Go.RowKit
set_option linter.unusedVariables false
set_option linter.unusedSimpArgs false

theorem shK_same (t : Tk) : shK t.kind t = t := rfl

theorem mvT_shK (k b : Int) (t : Tk) : mvT k b t = shK (if k ≤ t.kind then t.kind + b else t.kind) t := by
  unfold mvT
  split
  · rfl
  · rfl

theorem mvL_zero (ts : List Tk) : mvL 0 0 ts = ts := by
  unfold mvL
  refine (List.map_congr_left (g := id) fun t _ => ?_).trans (List.map_id _)
  rw [mvT_shK]
  split
  · show shK (t.kind + 0) t = t
    rw [Int.add_zero]
    rfl
  · rfl

/-- Nodes from there on, each by itself. -/
theorem seg_map {f : Nat → Tk → Int} {g : Tk → Tk} {ts : List Tk} {s : Nat} : ∀ m, s + m ≤ ts.length → (∀ j (h : j < ts.length), s ≤ j → j < s + m → g ts[j] = shK (f j ts[j]) ts[j]) → segN f ts s m = ((ts.drop s).take m).map g
  | 0, _, _ => by simp [segN]
  | m + 1, h, hg => by
    have hl : s + m < ts.length := by omega
    have hd : m < (ts.drop s).length := by rw [List.length_drop]; omega
    rw [segN_next (List.getElem?_eq_getElem hl), seg_map m (by omega) (fun j hj h1 h2 => hg j hj h1 (by omega)), take_snocN hd, List.map_append]
    simp only [List.map_cons, List.map_nil, List.getElem_drop]
    rw [hg (s + m) hl (by omega) (by omega)]

theorem mv_seg {k b : Int} {ts : List Tk} {s m : Nat} (h : s + m ≤ ts.length) : mvL k b ((ts.drop s).take m) = segN (fun _ t => if k ≤ t.kind then t.kind + b else t.kind) ts s m :=
  (seg_map m h (fun j hj _ _ => mvT_shK k b ts[j])).symm

theorem mvL_sz {k b : Int} {ts : List Tk} {z : Nat} (h : TksSz z ts) : TksSz z (mvL k b ts) := by
  intro t ht
  obtain ⟨u, hu, rfl⟩ := List.mem_map.1 ht
  rw [mvT_shK]
  exact h u hu

theorem sz_drop {ts : List Tk} {z : Nat} (h : TksSz z ts) (n : Nat) : TksSz z (ts.drop n) := fun t ht => h t (List.mem_of_mem_drop ht)

theorem sl_cut (b o L cap f t : Nat) (h : f ≤ t) (ht : t ≤ cap) (W : World) : (Instr.slice 24 (.slice (some ⟨b, o, none⟩) L cap) (some (.int .i64 f)) (some (.int .i64 t)) (some (.int .i64 t))).run Try.prog W = .ok (.slice (some (if t = f then ⟨b, o, none⟩ else ⟨b, o + f * 4, none⟩)) (t - f) (t - f)) W := by
  have h' : (f : Int) ≤ t := by omega
  have h2 : (t : Int) ≤ cap := by omega
  go_simp
  by_cases e : t = f <;> simp [e, Addr.add]

theorem tk_piece {w : World} {b o f t : Nat} {ts : List Tk} (h : TkRow w (some ⟨b, o, none⟩) ts) : TkRow w (some (if t = f then ⟨b, o, none⟩ else ⟨b, o + f * 4, none⟩)) ((ts.drop f).take (t - f)) := by
  split
  · intro j hj
    rw [List.length_take] at hj
    omega
  · exact tk_take (tk_drop h f) _

set_option maxHeartbeats 2000000 in
theorem cCut (b o L cap f t : Nat) (h : f ≤ t) (ht : t ≤ cap) (w : World) : Calls Try.prog 40 #[.slice (some ⟨b, o, none⟩) L cap, .int .i64 (f : Int), .int .i64 (t : Int)] w fun e w' => e = .returned (.slice (some (if t = f then ⟨b, o, none⟩ else ⟨b, o + f * 4, none⟩)) (t - f) (t - f)) ∧ w' = w := by
  have hs := sl_cut b o L cap f t h ht
  generalize (if t = f then (⟨b, o, none⟩ : Addr) else ⟨b, o + f * 4, none⟩) = A at *
  go_enter Try.func40, Try.ntmps40
  go_wp2_with fail
  go_ret
  exact ⟨rfl, rfl⟩

set_option maxHeartbeats 2000000 in
theorem cRest (b o L cap f : Nat) (h : f ≤ L) (ht : L ≤ cap) (hL : L ≤ 1048576) (w : World) : Calls Try.prog 73 #[.slice (some ⟨b, o, none⟩) L cap, .int .i64 (f : Int)] w fun e w' => e = .returned (.slice (some (if L = f then ⟨b, o, none⟩ else ⟨b, o + f * 4, none⟩)) (L - f) (L - f)) ∧ w' = w := by
  have C := hid (cCut b o L cap f L h ht w)
  generalize (if L = f then (⟨b, o, none⟩ : Addr) else ⟨b, o + f * 4, none⟩) = A at *
  go_enter Try.func73, Try.ntmps73
  go_wp2_with fail
  refine C.out.mono ?_
  rintro e w1 ⟨rfl, rfl⟩
  go_wp2_with fail
  go_ret
  exact ⟨rfl, rfl⟩

set_option maxHeartbeats 2000000 in
theorem cCopied (a : Option Addr) (cap : Nat) (ts : List Tk) (w : World) (hR : TkRow w a ts) (hn : ts.length ≤ 1048576) (hz : TksSz 1048576 ts) (hk : ∀ t ∈ ts, t.kind ≤ 9223372036854775807) :
    Calls Try.prog 70 #[.slice a ts.length cap] w fun e w' => ∃ c, e = .returned (.slice (some ⟨w.heap.size, 0, none⟩) ts.length c) ∧ RowOf w w' (.slice (some ⟨w.heap.size, 0, none⟩) ts.length c) ts := by
  have C := hid (cMoved a cap ts 0 0 w hR hn hz (fun t ht h0 => by have := hk t ht; omega))
  rw [mvL_zero] at C
  clear hR hz hk
  generalize ts.length = n at *
  go_enter Try.func70, Try.ntmps70
  go_wp2_with fail
  refine C.out.mono ?_
  rintro e w1 ⟨c, rfl, hr⟩
  have HR := hid hr
  clear hr C
  go_wp2_with fail
  go_ret
  exact ⟨c, rfl, HR.out⟩

/-- Small Parents. -/
def KSm (ts : List Tk) : Prop := ∀ t ∈ ts, -1 ≤ t.kind ∧ t.kind ≤ 1000

theorem KSm.tree {ts : List Tk} (h : TreeP ts) : KSm ts := by
  intro t ht
  obtain ⟨i, hi, rfl⟩ := List.getElem_of_mem ht
  have := tree_kind h (List.getElem?_eq_getElem hi)
  omega

theorem KSm.take {ts : List Tk} (h : KSm ts) (n : Nat) : KSm (ts.take n) := fun t ht => h t (List.mem_of_mem_take ht)

theorem KSm.drop {ts : List Tk} (h : KSm ts) (n : Nat) : KSm (ts.drop n) := fun t ht => h t (List.mem_of_mem_drop ht)

/-- Two rows, the second made behind the first, put together. -/
theorem cConcat2 {w w2 w4 : World} {v1 v2 : Value} {L1 L2 : List Tk} (h1 : RowOf w w2 v1 L1) (h2 : RowOf w2 w4 v2 L2) (hn : L1.length + L2.length ≤ 1048576) :
    Calls Try.prog 72 #[.slice (some ⟨w4.heap.size, 0, none⟩) 2 2] (w4.alloc (.cells #[v1, v2] 24)) fun e w' => ∃ v, e = .returned v ∧ RowOf w w' v (L1 ++ L2) := by
  obtain ⟨es, a1, c1, rfl, hr1, hm1, hl1⟩ := h1.open
  obtain ⟨fs, a2, c2, rfl, hr2, hm2, hl2⟩ := h2.open
  have hA := (Below.refl w4.heap.size w4).alloc (Nat.le_refl _) (.cells #[.slice a1 es.length c1, .slice a2 fs.length c2] 24)
  have hB := bb (bb h1.bel h2.bel) hA
  have hR : RowsIn (w4.alloc (.cells #[.slice a1 es.length c1, .slice a2 fs.length c2] 24)) w.heap.size [⟨a1, c1, es⟩, ⟨a2, c2, fs⟩] := by
    refine ⟨fun r hr => ?_, fun i j hi hj hij e he f hf => ?_⟩
    · simp only [List.mem_cons, List.not_mem_nil, or_false] at hr
      rcases hr with rfl | rfl
      · exact (hr1.below h2.bel).below hA
      · exact (hr2.mono h1.bel.size).below hA
    · match i, j, hi, hj, hij with
      | 0, 1, _, _, _ => exact (hr1.apart_later hr2 (Nat.le_refl _)).1 e he f hf
      | 0, j + 2, _, hj, _ => simp at hj; omega
      | i + 1, j + 2, _, hj, _ => simp at hj; omega
  have hF : flatR [⟨a1, c1, es⟩, ⟨a2, c2, fs⟩] = es ++ fs := by simp [flatR]
  refine (cConcat w.heap.size w4.heap.size [⟨a1, c1, es⟩, ⟨a2, c2, fs⟩] _ hB.size (heap_alloc_new _ _) hR (by simp) (by rw [hF, List.length_append]; omega)).mono ?_
  rintro e w' ⟨v, rfl, hr, hb⟩
  rw [hF] at hr
  obtain ⟨a', c', rfl⟩ := hr.slice
  exact ⟨_, rfl, ⟨_, a', c', rfl, hr, by rw [List.map_append, hm1, hm2]⟩, bb hB hb⟩

/-- Three rows, the one in the middle made ahead of the others. -/
theorem cConcat3 {w0 w w2 w4 : World} {v1 v2 v3 : Value} {L1 L2 L3 : List Tk} (h2 : RowOf w0 w v2 L2) (h1 : RowOf w w2 v1 L1) (h3 : RowOf w2 w4 v3 L3) (hn : L1.length + L2.length + L3.length ≤ 1048576) :
    Calls Try.prog 72 #[.slice (some ⟨w4.heap.size, 0, none⟩) 3 3] (w4.alloc (.cells #[v1, v2, v3] 24)) fun e w' => ∃ v, e = .returned v ∧ RowOf w0 w' v (L1 ++ L2 ++ L3) := by
  obtain ⟨es, a1, c1, rfl, hr1, hm1, hl1⟩ := h1.open
  obtain ⟨fs, a2, c2, rfl, hr2, hm2, hl2⟩ := h2.open
  obtain ⟨gs, a3, c3, rfl, hr3, hm3, hl3⟩ := h3.open
  have hA := (Below.refl w4.heap.size w4).alloc (Nat.le_refl _) (.cells #[.slice a1 es.length c1, .slice a2 fs.length c2, .slice a3 gs.length c3] 24)
  have hB4 := bb (bb h2.bel h1.bel) h3.bel
  have hB := bb hB4 hA
  have sym : ∀ e f : Nd.E, Nd.Apart e f → Nd.Apart f e := fun e f h hl hl' g o g' o' e1 e2 e3 => h hl' hl g' o' g o e2 e1 e3.symm
  have hR : RowsIn (w4.alloc (.cells #[.slice a1 es.length c1, .slice a2 fs.length c2, .slice a3 gs.length c3] 24)) w0.heap.size [⟨a1, c1, es⟩, ⟨a2, c2, fs⟩, ⟨a3, c3, gs⟩] := by
    refine ⟨fun r hr => ?_, fun i j hi hj hij e he f hf => ?_⟩
    · simp only [List.mem_cons, List.not_mem_nil, or_false] at hr
      rcases hr with rfl | rfl | rfl
      · exact ((hr1.mono h2.bel.size).below h3.bel).below hA
      · exact ((hr2.below h1.bel).below h3.bel).below hA
      · exact (hr3.mono (Nat.le_trans h2.bel.size h1.bel.size)).below hA
    · match i, j, hi, hj, hij with
      | 0, 1, _, _, _ => exact sym _ _ ((hr2.apart_later hr1 (Nat.le_refl _)).1 f hf e he)
      | 0, 2, _, _, _ => exact (hr1.apart_later hr3 (Nat.le_refl _)).1 e he f hf
      | 1, 2, _, _, _ => exact ((hr2.below h1.bel).apart_later hr3 (Nat.le_refl _)).1 e he f hf
      | i, j + 3, _, hj, _ => simp at hj; omega
      | i + 2, 2, _, _, h => omega
  have hF : flatR [⟨a1, c1, es⟩, ⟨a2, c2, fs⟩, ⟨a3, c3, gs⟩] = es ++ fs ++ gs := by simp [flatR]
  refine (cConcat w0.heap.size w4.heap.size [⟨a1, c1, es⟩, ⟨a2, c2, fs⟩, ⟨a3, c3, gs⟩] _ hB.size (heap_alloc_new _ _) hR (by simp) (by rw [hF, List.length_append, List.length_append]; omega)).mono ?_
  rintro e w' ⟨v, rfl, hr, hb⟩
  rw [hF] at hr
  obtain ⟨a', c', rfl⟩ := hr.slice
  exact ⟨_, rfl, ⟨_, a', c', rfl, hr, by rw [List.map_append, List.map_append, hm1, hm2, hm3]⟩, bb hB hb⟩

set_option maxRecDepth 4000 in
set_option maxHeartbeats 4000000 in
theorem cWithout (b o cap : Nat) (ts : List Tk) (f t : Nat) (w : World) (hR : TkRow w (some ⟨b, o, none⟩) ts) (hc : ts.length ≤ cap) (hft : f ≤ t) (ht : t ≤ ts.length) (hn : ts.length ≤ 1048576) (hz : TksSz 1048576 ts) (hk : KSm ts) :
    Calls Try.prog 36 #[.slice (some ⟨b, o, none⟩) ts.length cap, .int .i64 (f : Int), .int .i64 (t : Int)] w fun e w' => ∃ v, e = .returned v ∧ RowOf w w' v (ts.take f ++ mvL t ((f : Int) - (t : Int)) (ts.drop t)) := by
  have HP1 := hid (show TkRow w (some (if f = 0 then ⟨b, o, none⟩ else ⟨b, o + 0 * 4, none⟩)) (ts.take f) by
    have h := tk_piece (f := 0) (t := f) hR
    rw [Nat.sub_zero, List.drop_zero] at h
    exact h)
  have HP2 := hid (show TkRow w (some (if ts.length = t then ⟨b, o, none⟩ else ⟨b, o + t * 4, none⟩)) (ts.drop t) by
    have h := tk_piece (f := t) (t := ts.length) hR
    rw [List.take_of_length_le (by rw [List.length_drop]; exact Nat.le_refl _)] at h
    exact h)
  have CC := hid (cCut b o ts.length cap 0 f (Nat.zero_le _) (by omega) w)
  rw [Nat.sub_zero] at CC
  have CR := hid (fun wx => cRest b o ts.length cap t ht hc hn wx)
  have hl1 : (ts.take f).length = f := by rw [List.length_take]; omega
  have hl2 : (ts.drop t).length = ts.length - t := List.length_drop ..
  have CP := hid (fun (a : Option Addr) wx (h : TkRow wx a (ts.take f)) => cCopied a f (ts.take f) wx h (by omega) (sz_take hz f) (fun u hu => by have := (hk.take f) u hu; omega))
  have CM := hid (fun (a : Option Addr) wx (h : TkRow wx a (ts.drop t)) => cMoved a (ts.length - t) (ts.drop t) (t : Int) ((f : Int) - (t : Int)) wx h (by omega) (sz_drop hz t) (fun u hu _ => by have := (hk.drop t) u hu; omega))
  rw [hl1] at CP
  rw [hl2] at CM
  have HL := hid (show (ts.take f).length + (mvL t ((f : Int) - (t : Int)) (ts.drop t)).length ≤ 1048576 by rw [mvL_len, hl1, hl2]; omega)
  generalize (if f = 0 then (⟨b, o, none⟩ : Addr) else ⟨b, o + 0 * 4, none⟩) = A1 at *
  generalize (if ts.length = t then (⟨b, o, none⟩ : Addr) else ⟨b, o + t * 4, none⟩) = A2 at *
  clear hz hk hl1 hl2 hR
  generalize mvL t ((f : Int) - (t : Int)) (ts.drop t) = L2 at *
  generalize ts.take f = L1 at *
  generalize ts.drop t = D2 at *
  have hw1 : -9223372036854775808 ≤ (f : Int) - (t : Int) ∧ (f : Int) - (t : Int) ≤ 9223372036854775807 := by omega
  generalize ts.length = n at *
  go_enter Try.func36, Try.ntmps36
  go_wp2_with fail
  refine CC.out.mono ?_
  rintro e w1 ⟨rfl, e1⟩
  subst e1
  go_wp2_with fail
  refine (CP.out _ _ HP1.out).mono ?_
  rintro e w2 ⟨c2, rfl, hr2⟩
  have HR2 := hid hr2
  have HP3 := hid (HP2.out.below hr2.bel)
  clear hr2 CC HP1 HP2 CP
  go_wp2_with fail
  refine (CR.out _).mono ?_
  rintro e w3 ⟨rfl, e3⟩
  subst e3
  go_wp2_with fail
  refine (CM.out _ _ HP3.out).mono ?_
  rintro e w4 ⟨c4, rfl, hr4⟩
  have HR4 := hid hr4
  have CK := hid (cConcat2 HR2.out HR4.out HL.out)
  clear hr4 CR CM HP3 HR2 HR4 HL
  go_wp2_with fail
  refine CK.out.mono ?_
  rintro e w5 ⟨v5, rfl, hr5⟩
  have HR5 := hid hr5
  clear hr5 CK
  go_wp2_with fail
  go_ret
  exact ⟨_, rfl, HR5.out⟩

set_option maxRecDepth 4000 in
set_option maxHeartbeats 4000000 in
theorem cWith (w0 : World) (b o cap : Nat) (ts : List Tk) (f : Nat) (v2 : Value) (L2 : List Tk) (w : World) (h2 : RowOf w0 w v2 L2) (hR : TkRow w (some ⟨b, o, none⟩) ts) (hc : ts.length ≤ cap) (hf : f ≤ ts.length) (hn : ts.length ≤ 1000) (hl2 : L2.length ≤ 1000) (hz : TksSz 1048576 ts) (hk : KSm ts) :
    Calls Try.prog 58 #[.slice (some ⟨b, o, none⟩) ts.length cap, .int .i64 (f : Int), v2] w fun e w' => ∃ v, e = .returned v ∧ RowOf w0 w' v (ts.take f ++ L2 ++ mvL f (L2.length : Int) (ts.drop f)) := by
  have HP1 := hid (show TkRow w (some (if f = 0 then ⟨b, o, none⟩ else ⟨b, o + 0 * 4, none⟩)) (ts.take f) by
    have h := tk_piece (f := 0) (t := f) hR
    rw [Nat.sub_zero, List.drop_zero] at h
    exact h)
  have HP2 := hid (show TkRow w (some (if ts.length = f then ⟨b, o, none⟩ else ⟨b, o + f * 4, none⟩)) (ts.drop f) by
    have h := tk_piece (f := f) (t := ts.length) hR
    rw [List.take_of_length_le (by rw [List.length_drop]; exact Nat.le_refl _)] at h
    exact h)
  have CC := hid (cCut b o ts.length cap 0 f (Nat.zero_le _) (by omega) w)
  rw [Nat.sub_zero] at CC
  have CR := hid (fun wx => cRest b o ts.length cap f hf hc (by omega) wx)
  have hl1 : (ts.take f).length = f := by rw [List.length_take]; omega
  have hl3 : (ts.drop f).length = ts.length - f := List.length_drop ..
  have CP := hid (fun (a : Option Addr) wx (h : TkRow wx a (ts.take f)) => cCopied a f (ts.take f) wx h (by omega) (sz_take hz f) (fun u hu => by have := (hk.take f) u hu; omega))
  have CM := hid (fun (a : Option Addr) wx (h : TkRow wx a (ts.drop f)) => cMoved a (ts.length - f) (ts.drop f) (f : Int) (L2.length : Int) wx h (by omega) (sz_drop hz f) (fun u hu _ => by have := (hk.drop f) u hu; omega))
  rw [hl1] at CP
  rw [hl3] at CM
  have HL := hid (show (ts.take f).length + L2.length + (mvL f (L2.length : Int) (ts.drop f)).length ≤ 1048576 by rw [mvL_len, hl1, hl3]; omega)
  obtain ⟨es, a2, c2, hv2, _, _, hle⟩ := h2.open
  rw [hle] at hv2
  subst hv2
  have H2 := hid h2
  generalize (if f = 0 then (⟨b, o, none⟩ : Addr) else ⟨b, o + 0 * 4, none⟩) = A1 at *
  generalize (if ts.length = f then (⟨b, o, none⟩ : Addr) else ⟨b, o + f * 4, none⟩) = A2 at *
  clear hz hk hl1 hl3 hR h2 hle
  generalize mvL f (L2.length : Int) (ts.drop f) = L3 at *
  generalize ts.take f = L1 at *
  generalize ts.drop f = D3 at *
  obtain ⟨n2, hn2⟩ : ∃ n2, L2.length = n2 := ⟨_, rfl⟩
  have HN2 := hid hn2
  rw [hn2] at CM hl2 H2 ⊢
  clear hn2
  generalize ts.length = n at *
  go_enter Try.func58, Try.ntmps58
  go_wp2_with fail
  refine CC.out.mono ?_
  rintro e w1 ⟨rfl, e1⟩
  subst e1
  go_wp2_with fail
  refine (CP.out _ _ HP1.out).mono ?_
  rintro e w2 ⟨c3, rfl, hr2⟩
  have HR2 := hid hr2
  have HP3 := hid (HP2.out.below hr2.bel)
  clear hr2 CC HP1 HP2 CP
  go_wp2_with fail
  refine (CR.out _).mono ?_
  rintro e w3 ⟨rfl, e3⟩
  subst e3
  go_wp2_with fail
  refine (CM.out _ _ HP3.out).mono ?_
  rintro e w4 ⟨c4, rfl, hr4⟩
  have HR4 := hid hr4
  have CK := hid (cConcat3 H2.out HR2.out HR4.out HL.out)
  clear hr4 CR CM HP3 HR2 HR4 HL
  go_wp2_with fail
  refine CK.out.mono ?_
  rintro e w5 ⟨v5, rfl, hr5⟩
  have HR5 := hid hr5
  clear hr5 CK
  go_wp2_with fail
  go_ret
  exact ⟨_, rfl, HR5.out⟩

/-- As it is, and refused; nothing, where it is no tree. -/
noncomputable def asIs (ts : List Tk) : List Tk := if treeB ts then ts else []

set_option maxHeartbeats 2000000 in
theorem cAsIs (a : Option Addr) (cap : Nat) (ts : List Tk) (w : World) (hR : TkRow w a ts) (hn : ts.length ≤ 1048576) (hz : TksSz 1048576 ts) :
    Calls Try.prog 33 #[.slice a ts.length cap] w (TreeAns w (asIs ts) false) := by
  have C := hid (cTreeOkI a cap ts w hR hn hz)
  have HR := hid hR
  cases hT : treeB ts with
  | false =>
    have HE := hid (show asIs ts = [] by unfold asIs; rw [hT]; rfl)
    rw [HE.out]
    rw [hT] at C
    clear hT HE hR hz HR
    generalize ts.length = n at *
    go_enter Try.func33, Try.ntmps33
    go_wp2_with fail
    refine C.out.mono ?_
    rintro e w1 ⟨rfl, hb1⟩
    have HB1 := hid hb1
    clear hb1 C
    go_wp2_with fail
    go_ret2
    exact ⟨_, rfl, ⟨[], none, 0, rfl, Nd.Row.start0 _ _, rfl⟩, HB1.out⟩
  | true =>
    have HE := hid (show asIs ts = ts by unfold asIs; rw [hT]; rfl)
    rw [HE.out]
    rw [hT] at C
    have hT2 : TreeP ts := by unfold treeB at hT; simpa using hT
    have CC := hid (fun wx (h : TkRow wx a ts) => cCopied a cap ts wx h hn hz (fun u hu => by have := (KSm.tree hT2) u hu; omega))
    clear hT HE hR hz hT2
    generalize ts.length = n at *
    go_enter Try.func33, Try.ntmps33
    go_wp2_with fail
    refine C.out.mono ?_
    rintro e w1 ⟨rfl, hb1⟩
    have HB1 := hid hb1
    have HR1 := hid (HR.out.below hb1)
    clear hb1 C HR
    go_wp2_with fail
    refine (CC.out _ HR1.out).mono ?_
    rintro e w2 ⟨c2, rfl, hr2⟩
    have HR2 := hid (RowOf.later HB1.out hr2)
    clear hr2
    go_wp2_with fail
    go_ret2
    exact ⟨_, rfl, HR2.out⟩

set_option maxHeartbeats 2000000 in
theorem cChanged (w0 : World) (a : Option Addr) (cap : Nat) (ts : List Tk) (v2 : Value) (L2 : List Tk) (w : World) (h2 : RowOf w0 w v2 L2) (hR : TkRow w a ts) (hn : ts.length ≤ 1048576) (hz : TksSz 1048576 ts) (hn2 : L2.length ≤ 1048576) (hz2 : TksSz 1048576 L2) :
    Calls Try.prog 34 #[.slice a ts.length cap, v2] w (TreeAns w0 (if treeB L2 then L2 else asIs ts) (treeB L2)) := by
  have H2 := hid h2
  obtain ⟨a2, c2, hv2, ht2⟩ := h2.tk
  subst hv2
  have C := hid (cTreeOkI a2 c2 L2 w ht2 hn2 hz2)
  have CA := hid (fun wx (hb : Below w.heap.size w wx) => cAsIs a cap ts wx (hR.below hb) hn hz)
  clear h2 ht2 hz hz2 hR hn2
  cases hT : treeB L2 with
  | false =>
    rw [if_neg Bool.false_ne_true]
    rw [hT] at C
    clear hT
    generalize asIs ts = R at *
    generalize L2.length = n2 at *
    generalize ts.length = n at *
    go_enter Try.func34, Try.ntmps34
    go_wp2_with fail
    refine C.out.mono ?_
    rintro e w1 ⟨rfl, hb1⟩
    have HB1 := hid (bb H2.out.bel hb1)
    have CA1 := hid (CA.out _ hb1)
    clear hb1 C CA
    go_wp2_with fail
    refine CA1.out.mono ?_
    rintro e w3 ⟨v3, rfl, hr3⟩
    have HR3 := hid (RowOf.later HB1.out hr3)
    clear hr3
    go_wp2_with fail
    go_ret2
    exact ⟨_, rfl, HR3.out⟩
  | true =>
    rw [if_pos rfl]
    rw [hT] at C
    clear hT CA
    generalize L2.length = n2 at *
    generalize ts.length = n at *
    go_enter Try.func34, Try.ntmps34
    go_wp2_with fail
    refine C.out.mono ?_
    rintro e w1 ⟨rfl, hb1⟩
    have HR3 := hid (H2.out.below hb1)
    clear hb1 C
    go_wp2_with fail
    go_ret2
    exact ⟨_, rfl, HR3.out⟩

end Go.Proofs.Ytikplfghepojiaa
