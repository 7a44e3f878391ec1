/- Rows put one behind the other: contracts of slices.Grow and slices.Concat. Contracts of EndOf and elementThere of the program. The tokens of a tree (plain mathematics). -/
import Derived.Test.YtcjeodgfpnecgaaGreatDoorM28
import Derived.Test.YtcjeodgfpnecgaaGreatDoorM24
import Derived.Test.YtcjeodgfpnecgaaGreatDoorM9
import Derived.Test.YtcjeodgfpnecgaaGreatDoorM15
import Derived.Lib.AppendZerosOnto
import Derived.Lib.SliceRun
namespace Go.Proofs.YtcjeodgfpnecgaaGreatDoor
open Go.RowKit
set_option linter.unusedVariables false
set_option linter.unusedSimpArgs false

set_option maxHeartbeats 2000000 in
theorem cGrow0 (w : World) : Calls Tryz.prog 95 #[.slice none 0 0, .int .i64 0] w fun e w' => e = .returned (.slice none 0 0) ∧ w' = w := by
  go_enter Tryz.func95, Tryz.ntmps95
  go_wp2
  go_ret
  exact ⟨rfl, rfl⟩

set_option maxHeartbeats 4000000 in
theorem cGrowN (w : World) (n : Nat) (h0 : 0 < n) (hn : n ≤ 1048576) : Calls Tryz.prog 95 #[.slice none 0 0, .int .i64 (n : Int)] w fun e w' =>
    ∃ G, e = .returned (.slice (some ⟨w.heap.size, 0, none⟩) 0 G) ∧ w'.ownsRow w.heap.size 44 4 (.slice (some ⟨w.heap.size, 0, none⟩) 0 G) 0 [] ∧ Below w.heap.size w w' := by
  obtain ⟨i0, hi, hz0, hz1, hz2⟩ := info_parts Nd.infoR
  have hold : (Builtin.firstCells i0.size 0 (.slice none 0 0)).run Tryz.prog w.drew = .ok ([] : List Value).toArray w.drew := run_firstCells_none w.drew i0.size 0 0 0
  have hrz : ∀ ty, (Builtin.append_ #[26, 3] ty #[.slice none 0 0, .int .i64 (n : Int)]).run Tryz.prog w = _ := fun ty =>
    Lib.run_append_grow_zeros w 26 3 ty 44 i0 _ .i64 .i64 Tryz.underlying26 Tryz.underlying3 hi hz0 none 0 0 [] hold n h0 (by rw [hz1]; decide) (by omega) (by omega) (by rw [hz2]; omega) (growslice_fits (by omega) (by rw [hz2]; omega))
  have hGn := grownCap_ge w (0 + n) 0 44
  have hGm := grownCap_le_maxLen w (0 + n) 0 44 (by unfold maxLen; omega)
  obtain ⟨G, hG⟩ : ∃ G, G = grownCap w (0 + n) 0 44 := ⟨_, rfl⟩
  rw [← hG] at hGn hGm
  simp only [← hG] at hrz
  obtain ⟨cur, hcur⟩ : ∃ cur, cur = (([] : List Value).toArray ++ Builtin.zeroCells (Value.cells (.agg #[.int .i64 0, .string ⟨#[]⟩, .slice none 0 0, .string ⟨#[]⟩])) n ++ Builtin.zeroCells (Value.cells (.agg #[.int .i64 0, .string ⟨#[]⟩, .slice none 0 0, .string ⟨#[]⟩])) (G - (0 + n))) := ⟨_, rfl⟩
  have hsz : cur.size = G * 4 := by
    rw [hcur, Array.size_append, Array.size_append, size_zeroCells, size_zeroCells]
    show 0 + n * 4 + (G - (0 + n)) * 4 = G * 4
    omega
  obtain ⟨w1, hw1⟩ : ∃ w1, w1 = w.drew.alloc (.cells cur 44) := ⟨_, rfl⟩
  have HB := hid (show Below w.heap.size w w1 by rw [hw1]; exact (Below.refl w.heap.size w).drew.alloc (Nat.le_refl _) _)
  have HH := hid (show w1.heap[w.heap.size]? = some (.cells cur 44 (0, 0)) by rw [hw1]; exact heap_alloc_new w.drew _)
  simp only [← hcur, ← hw1] at hrz
  simp only [Nat.zero_add] at hrz
  have HSZ := hid hsz
  have HGM := hid hGm
  have hG63 : G ≤ 9223372036854775807 := by unfold maxLen at hGm; omega
  have h1 : ¬ ((n : Int) < 0) := by omega
  have h4 : (n : Int) > 0 := by omega
  clear hcur hsz hGm hG hold hi hz0 hz1 hz2 hw1
  go_enter Tryz.func95, Tryz.ntmps95
  go_wp2_with (at_builtin; refine Lib.wpList_append_run _ rfl _ _ _ _ rfl _ _ rfl rfl _ _ (hrz _) ?_)
  go_ret
  exact ⟨G, rfl, ⟨rfl, .inr ⟨w.heap.size, G, cur, rfl, Nat.le_refl _, HH.out, Nat.zero_le _, HGM.out, HSZ.out, by simp⟩⟩, HB.out⟩

theorem cGrow (w : World) (n : Nat) (hn : n ≤ 1048576) : Calls Tryz.prog 95 #[.slice none 0 0, .int .i64 (n : Int)] w fun e w' => ∃ v, e = .returned v ∧ w'.ownsRow w.heap.size 44 4 v 0 [] ∧ Below w.heap.size w w' := by
  rcases Nat.eq_zero_or_pos n with h | h
  · subst h
    refine (cGrow0 w).mono ?_
    rintro e w' ⟨rfl, rfl⟩
    exact ⟨_, rfl, World.ownsRow_nil _ _ _ _, Below.refl _ _⟩
  · refine (cGrowN w n h hn).mono ?_
    rintro e w' ⟨G, rfl, h1, h2⟩
    exact ⟨_, rfl, h1, h2⟩

/-- A row of nodes that is put behind others. -/
structure Rw where
  a : Option Addr
  c : Nat
  es : List Nd.E

def Rw.v (r : Rw) : Value := .slice r.a r.es.length r.c

def flatR (rs : List Rw) : List Nd.E := rs.flatMap (·.es)

theorem flatR_snoc {rs : List Rw} {i : Nat} (h : i < rs.length) : flatR (rs.take (i + 1)) = flatR (rs.take i) ++ rs[i].es := by
  unfold flatR
  rw [take_snocN h, List.flatMap_append]
  simp

theorem flatR_le (rs : List Rw) (i : Nat) : (flatR (rs.take i)).length ≤ (flatR rs).length := by
  have h : flatR rs = flatR (rs.take i) ++ flatR (rs.drop i) := by unfold flatR; rw [← List.flatMap_append, List.take_append_drop]
  rw [h, List.length_append]
  omega

/-- Each a row of one's own, no two share. -/
structure RowsIn (w : World) (B : Nat) (rs : List Rw) : Prop where
  row : ∀ r ∈ rs, Nd.Row w B r.v r.es
  ap : ∀ i j (hi : i < rs.length) (hj : j < rs.length), i < j → ∀ e ∈ rs[i].es, ∀ f ∈ rs[j].es, Nd.Apart e f

theorem mem_flatR {rs : List Rw} {i : Nat} (hi : i ≤ rs.length) {e : Nd.E} (h : e ∈ flatR (rs.take i)) : ∃ j, ∃ hj : j < rs.length, j < i ∧ e ∈ rs[j].es := by
  obtain ⟨r, hr, he⟩ := List.mem_flatMap.1 h
  obtain ⟨j, hj, rfl⟩ := List.getElem_of_mem hr
  rw [List.length_take] at hj
  refine ⟨j, by omega, by omega, ?_⟩
  rw [List.getElem_take] at he
  exact he

/-- The first i of these, put together. -/
structure CatR (w wr : World) (B : Nat) (v : Value) (es : List Nd.E) : Prop where
  row : Nd.Row wr B v es
  bel : Below w.heap.size w wr
  new : ∀ k, v.ownBlock = some k → w.heap.size ≤ k

/-- append of one row of one's own to another. -/
theorem wpL_add (W : World) {ops : Array Oper} {rest : List Oper} {o : Oper} {a : Act} {Q : Exit → Act → World → Prop} (hgd : o.guard = none) (s x : Operand)
    (ho : o.op = .call { callee := .builtin .append, args := #[s, x], argTypes := #[26, 26] }) (B N : Nat) (v v2 : Value) (es fs : List Nd.E) (hs : a.eval s = v) (hx : a.eval x = v2) (h1 : Nd.Row W B v es) (h2 : Nd.Row W B v2 fs)
    (hap : ∀ e ∈ es, ∀ f ∈ fs, Nd.Apart e f) (hN : N ≤ W.heap.size) (hBN : B ≤ N) (hv : ∀ k, v.ownBlock = some k → N ≤ k) (hf : ∀ f ∈ fs, ∀ g o, 0 < f.t.attrs.length → f.a = some ⟨g, o, none⟩ → g < N) (hn : es.length + fs.length ≤ 2097152)
    (h : ∀ v' w', Nd.Row w' B v' (es ++ fs) → Below N W w' → (∀ k, v'.ownBlock = some k → N ≤ k) → wpList Tryz.prog ops Q rest (a.put o.dst v') w') : wpList Tryz.prog ops Q (o :: rest) a W := by
  obtain ⟨i0, hi, hz0, hz1, hz2⟩ := info_parts Nd.infoR
  obtain ⟨a2, c2, hv2⟩ := h2.slice
  subst hv2
  obtain ⟨a1, c1, hv1⟩ := h1.slice
  by_cases h0 : fs = []
  · subst h0
    rw [List.append_nil] at h
    refine wpL_none _ hgd s x 26 44 i0 ho Tryz.underlying26 hi a1 es.length c1 (hs.trans hv1) ?_ a2 c2 hx (by rw [← hv1]; exact h _ _ h1 (Below.refl _ _) hv)
    rw [hv1] at h1
    rcases h1.own.2 with ⟨e, _⟩ | ⟨g, cap, cur, e, _, _, hc, _⟩
    · injection e with e1 e2 e3
      rw [e2]
      exact Nat.zero_le _
    · injection e with e1 e2 e3
      rw [e3]
      exact hc
  · obtain ⟨g, e, _, hcs⟩ := h2.cells h0
    subst e
    refine wpList_append_own_at W hgd s x 26 ho B 44 i0 _ 4 64 Tryz.underlying26 hi hz0 hz1 hz2 rfl (by decide) v es.length (Nd.cs es) hs h1.own ⟨g, 0, none⟩ fs.length c2 (Nd.cs fs) hx (Nd.cs_len fs) hcs (Nd.cs_cell fs) (by unfold maxLen; omega) (by omega) (by omega) ?_
    intro v' w' ho' hg' _ hw'
    have hr := h1.join (fun f hf' => ⟨(h2.ats f hf').1, fun g' o' hl e1 e2 => by have := hf f hf' g' o' hl e1; have := hv g' e2; omega⟩) h2.apart hap ho' hg' hw'
    refine h v' w' hr ((Below.refl N W).grown hg' hN hv) (fun k e => ?_)
    rcases hw' with e1 | e1
    · exact hv k (e1.symm.trans e)
    · rw [e1] at e
      cases e
      exact hN

def sumR (rs : List Rw) : Nat := (flatR rs).length

set_option maxRecDepth 8000 in
set_option maxHeartbeats 8000000 in
theorem cConcat (B b : Nat) (rs : List Rw) (w : World) (hB : B ≤ w.heap.size) (hb : w.heap[b]? = some (.cells (rs.map Rw.v).toArray 26 (0, 0))) (hr : RowsIn w B rs) (hm : rs.length ≤ 100) (hn : (flatR rs).length ≤ 1048576) :
    Calls Tryz.prog 70 #[.slice (some ⟨b, 0, none⟩) rs.length rs.length] w fun e w' => ∃ v, e = .returned v ∧ Nd.Row w' B v (flatR rs) ∧ Below w.heap.size w w' := by
  have HRS := hid hr
  have HBL := hid hb
  have HCE := hid (show ∀ i (hi : i < rs.length) (W : World), Below w.heap.size w W → W.cell? ⟨b, i, none⟩ = some (.slice rs[i].a rs[i].es.length rs[i].c) from fun i hi W hbw => by
    rw [Lib.cell_of_heap (blk_below hb hbw)]
    simp [hi, Rw.v])
  have HTK := hid (fun i => flatR_le rs i)
  have HSN := hid (fun i (h : i < rs.length) => flatR_snoc h)
  obtain ⟨m, hmm⟩ : ∃ m, rs.length = m := ⟨_, rfl⟩
  have HM := hid hmm
  obtain ⟨S, hS⟩ : ∃ S, (flatR rs).length = S := ⟨_, rfl⟩
  have HS := hid hS
  rw [hmm] at hm ⊢
  rw [hS] at hn
  clear hr hb hmm hS
  go_enter Tryz.func70, Tryz.ntmps70
  go_wp2_with fail
  go_loop [3, 11] (fun v x => ∃ i : Nat, x = .int .i64 (i : Int) ∧ i ≤ m ∧ v = .int .i64 ((flatR (rs.take i)).length : Int)) (fun _ x => m - (intOf x).toNat)
  case atStart => exact ⟨0, rfl, Nat.zero_le _, rfl⟩
  case round =>
    obtain ⟨i, rfl, hi, rfl⟩ := hrel
    by_cases hlt : i < m
    · have his : i < rs.length := by rw [HM.out]; exact hlt
      have hin : (i : Int) < (m : Int) := by omega
      have c := HCE.out i his w (Below.refl _ _)
      have hsn := congrArg List.length (HSN.out i his)
      rw [List.length_append] at hsn
      have hle := HTK.out (i + 1)
      rw [HS.out] at hle
      have HR := hid hsn
      obtain ⟨F', hF'⟩ : ∃ F, (flatR (rs.take (i + 1))).length = F := ⟨_, rfl⟩
      rw [hF'] at hsn hle
      have HF' := hid hF'
      clear hF' HR
      generalize (flatR (rs.take i)).length = F at *
      generalize rs[i].es.length = E at *
      generalize rs[i].a = ra at *
      generalize rs[i].c = rc at *
      have HSNN := hid hsn
      have hFE : F + E ≤ 1048576 := by omega
      clear hsn hle
      go_wp2_with fail
      go_round
      case rel => exact ⟨i + 1, by go_num, by omega, by rw [HF'.out, HSNN.out]; go_num⟩
      case measure => simp [intOf]; omega
    · have hie : m = i := by omega
      subst hie
      rw [List.take_of_length_le (by rw [HM.out]; exact Nat.le_refl _), HS.out]
      have CG := hid (cGrow w S hn)
      go_wp2_with fail
      refine CG.out.mono ?_
      rintro e w1 ⟨v1, rfl, ho1, hb1⟩
      have HX := hid (show CatR w w1 B v1 (flatR (rs.take 0)) from ⟨⟨⟨rfl, by
        rcases ho1.2 with h' | ⟨g, cap, cur, h1, h2, h3⟩
        · exact .inl h'
        · exact .inr ⟨g, cap, cur, h1, Nat.le_trans hB h2, h3⟩⟩, fun e he => absurd he List.not_mem_nil, List.Pairwise.nil⟩, hb1, fun k e => (ho1.lt k e).1⟩)
      clear ho1 hb1 CG
      go_wp2_with fail
      go_loopw [6, 27] (fun v x wr => ∃ i : Nat, x = .int .i64 (i : Int) ∧ i ≤ m ∧ Hid (CatR w wr B v (flatR (rs.take i)))) (fun _ x _ => m - (intOf x).toNat)
      case atStart => exact ⟨0, rfl, Nat.zero_le _, HX.out⟩
      case round =>
        clear HX
        obtain ⟨i, rfl, hi2, HX⟩ := hrel
        by_cases hlt2 : i < m
        · have his : i < rs.length := by rw [HM.out]; exact hlt2
          have hin : (i : Int) < (m : Int) := by omega
          have c := HCE.out i his wr HX.out.bel
          have HR2 := hid (HRS.out.row rs[i] (List.getElem_mem his))
          have HN2 := hid (HSN.out i his)
          have HL2 := hid (show (flatR (rs.take i)).length + rs[i].es.length ≤ 2097152 by
            have h1 := HTK.out (i + 1)
            rw [HS.out, HN2.out, List.length_append] at h1
            omega)
          have HAP := hid (show ∀ e ∈ flatR (rs.take i), ∀ f ∈ rs[i].es, Nd.Apart e f from fun e he f hf => by
            obtain ⟨j, hj, hji, hej⟩ := mem_flatR (by omega) he
            exact HRS.out.ap j i hj his hji e hej f hf)
          have HAL := hid (show ∀ f ∈ rs[i].es, ∀ g o, 0 < f.t.attrs.length → f.a = some ⟨g, o, none⟩ → g < w.heap.size from fun f hf g o hl e => by
            obtain ⟨g1, o1, cu, k1, _, k3, _⟩ := (HR2.out.ats f hf).1 hl
            rw [e] at k1
            cases k1
            exact lt_of_heap k3)
          go_wp2_with (at_builtin; refine wpL_add _ rfl _ _ rfl B w.heap.size _ (.slice rs[i].a rs[i].es.length rs[i].c) (flatR (rs.take i)) rs[i].es rfl rfl HX.out.row (HR2.out.below HX.out.bel) HAP.out HX.out.bel.size hB HX.out.new HAL.out HL2.out ?_)
          intro v2 w2 hr2 hb2 hn2
          have HX2 := hid (show CatR w w2 B v2 (flatR (rs.take (i + 1))) from ⟨by rw [HN2.out]; exact hr2, HX.out.bel.trans hb2, hn2⟩)
          clear hr2 hb2 hn2 c
          go_wp2_with fail
          go_roundw
          case rel => exact ⟨i + 1, by go_num, by omega, HX2.out⟩
          case measure => simp [intOf]; omega
        · have hie2 : i = m := by omega
          have HY := hid (show CatR w wr B u6 (flatR rs) by
            have h := HX.out
            rw [List.take_of_length_le (by rw [HM.out, hie2]; exact Nat.le_refl _)] at h
            exact h)
          have hni : ¬ (i : Int) < (m : Int) := by omega
          clear HX hie2
          go_wp2_with fail
          go_ret
          exact ⟨_, rfl, HY.out.row, HY.out.bel⟩

end Go.Proofs.YtcjeodgfpnecgaaGreatDoor

namespace Go.Proofs.YtcjeodgfpnecgaaGreatDoor
open Go.RowKit
set_option linter.unusedVariables false
set_option linter.unusedSimpArgs false

set_option maxHeartbeats 4000000 in
theorem cEndOfI (a : Option Addr) (cap : Nat) (ts : List Tk) (x : Int) (w : World) (hR : TkRow w a ts) (hn : ts.length ≤ 1048576) (hz : TksSz 1048576 ts) :
    Calls Tryz.prog 43 #[.slice a ts.length cap, .int .i64 x] w fun e w' => e = .returned (.int .i64 (endI ts x)) ∧ Below w.heap.size w w' := by
  have C := hid (cThere a cap ts x w hR hn hz)
  have HR := hid hR
  cases q : hasB ts x
  · have e1 : endI ts x = -1 := by unfold endI; rw [q]; rfl
    rw [e1]
    rw [q] at C
    clear hz hR e1
    generalize ts.length = n at *
    go_enter Tryz.func43, Tryz.ntmps43
    go_wp2_with fail
    refine C.out.mono ?_
    rintro e w1 ⟨rfl, hb1⟩
    have HB1 := hid hb1
    clear hb1
    go_wp2_with fail
    go_ret
    exact ⟨rfl, HB1.out⟩
  · obtain ⟨_, k, rfl, hk⟩ := hasB_t q
    have e1 : endI ts (k : Int) = (endN ts k : Int) := by unfold endI; rw [q]; rfl
    rw [e1]
    rw [q] at C
    clear hz hR e1 q
    obtain ⟨V, hV⟩ : ∃ V, endN ts k = V := ⟨_, rfl⟩
    have HV := hid hV
    rw [hV]
    clear hV
    obtain ⟨n, hnn⟩ : ∃ n, ts.length = n := ⟨_, rfl⟩
    have HN := hid hnn
    rw [hnn] at hn hk C ⊢
    clear hnn
    go_enter Tryz.func43, Tryz.ntmps43
    go_wp2_with fail
    refine C.out.mono ?_
    rintro e w1 ⟨rfl, hb1⟩
    have HB1 := hid hb1
    have HR1 := hid (HR.out.below hb1)
    clear hb1
    go_wp2_with fail
    go_loop [5] (fun v => ∃ e : Nat, v = .int .i64 (e : Int) ∧ k < e ∧ e ≤ n ∧ Hid (∀ j, k < j → j < e → (k : Int) ≤ parI ts j)) (fun v => n - (intOf v).toNat)
    case atStart => exact ⟨k + 1, by go_num, by omega, by omega, fun j h1 h2 => by omega⟩
    case round =>
      obtain ⟨e, rfl, h1, h2, HA⟩ := hrel
      by_cases hlt : e < n
      · have hes : e < ts.length := by rw [HN.out]; exact hlt
        have hin : (e : Int) < (n : Int) := by omega
        obtain ⟨b, o, rfl, c0, _⟩ := HR1.out.kindAt e hes
        by_cases hp : (k : Int) ≤ parI ts e
        · have HA2 := hid (show ∀ j, k < j → j < e + 1 → (k : Int) ≤ parI ts j from fun j g1 g2 => by
            rcases Nat.lt_or_eq_of_le (Nat.le_of_lt_succ g2) with h' | rfl
            · exact HA.out j g1 h'
            · exact hp)
          generalize parI ts e = P at *
          go_wp2
          go_round
          case rel => exact ⟨e + 1, by go_num, by omega, by omega, HA2.out⟩
          case measure => simp [intOf]; omega
        · have HW := hid (show V = e by rw [← HV.out]; exact endN_is h1 (by rw [HN.out]; exact h2) HA.out (.inr (by omega)))
          have hp' : parI ts e < (k : Int) := by omega
          generalize parI ts e = P at *
          go_wp2
          go_ret
          exact ⟨by rw [HW.out]; rfl, HB1.out⟩
      · have hee : e = n := by omega
        have HW := hid (show V = e by rw [← HV.out]; exact endN_is h1 (by rw [HN.out]; exact h2) HA.out (.inl (by rw [HN.out]; exact hee)))
        subst hee
        go_wp2
        go_ret
        exact ⟨by rw [HW.out]; rfl, HB1.out⟩

set_option maxHeartbeats 2000000 in
theorem g_elemThere (a : Option Addr) (cap : Nat) (ts : List Tk) (x : Int) (w : World) (hR : TkRow w a ts) (hn : ts.length ≤ 1048576) (hz : TksSz 1048576 ts) :
    Calls Tryz.prog 40 #[.slice a ts.length cap, .int .i64 x] w fun e w' => e = .returned (.bool (elemB ts x)) ∧ Below w.heap.size w w' := by
  have C := hid (cThere a cap ts x w hR hn hz)
  have HR := hid hR
  clear hR
  cases hh : hasB ts x with
  | false =>
    have HE := hid (show elemB ts x = false by unfold elemB; rw [hh]; rfl)
    rw [HE.out]
    rw [hh] at C
    clear hh HE HR hz
    generalize ts.length = n at *
    go_enter Tryz.func40, Tryz.ntmps40
    go_wp2_with fail
    refine C.out.mono ?_
    rintro e w1 ⟨rfl, hb1⟩
    have HB1 := hid hb1
    clear hb1 C
    go_wp2_with fail
    go_ret
    exact ⟨rfl, HB1.out⟩
  | true =>
    obtain ⟨hT, k, rfl, hk⟩ := hasB_t hh
    have HE := hid (show elemB ts (k : Int) = !decide (ts[k].name.size = 0) by unfold elemB; rw [hh]; show (true && !decide ((nameI ts k).size = 0)) = _; rw [nameI_at hk]; rfl)
    rw [HE.out]
    rw [hh] at C
    have HROW := hid (fun wx (hb : Below w.heap.size w wx) => (HR.out.below hb) k hk)
    obtain ⟨b, o, _, _, ea, -⟩ := HR.out k hk
    subst ea
    have hkn : (k : Int) < (ts.length : Int) := by omega
    have CI := hid (fun wx aa nA ca => cIsText ts[k].kind ts[k].name aa nA ca ts[k].text wx (hz _ (List.getElem_mem hk)).1)
    clear hh HE HR hz hT
    generalize decide (ts[k].name.size = 0) = D at *
    generalize ts[k].kind = K at *
    generalize ts[k].name = N at *
    generalize ts[k].text = T at *
    generalize ts[k].attrs = A at *
    generalize ts.length = n at *
    go_enter Tryz.func40, Tryz.ntmps40
    go_wp2_with fail
    refine C.out.mono ?_
    rintro e w1 ⟨rfl, hb1⟩
    obtain ⟨b', o', aa, ca, e', hb, q0, q1, q2, q3, _⟩ := HROW.out _ hb1
    obtain ⟨rfl, rfl⟩ : b = b' ∧ o = o' := by cases e'; exact ⟨rfl, rfl⟩
    have HB1 := hid hb1
    clear hb1 C e' HROW
    go_wp2_with fail
    refine (CI.out _ _ _ _).mono ?_
    rintro e w2 ⟨rfl, hb2⟩
    have HB2 := hid (bb HB1.out hb2)
    clear hb2
    go_wp2_with fail
    go_ret
    exact ⟨rfl, HB2.out⟩

end Go.Proofs.YtcjeodgfpnecgaaGreatDoor

namespace Go.Proofs.YtcjeodgfpnecgaaGreatDoor
set_option linter.unusedVariables false

def nodeAt (ts : List Tk) (k : Nat) : Tk := match ts[k]? with | some t => t | none => ⟨0, ⟨#[]⟩, [], ⟨#[]⟩⟩

theorem nodeAt_at {ts : List Tk} {k : Nat} (h : k < ts.length) : nodeAt ts k = ts[k] := by unfold nodeAt; rw [List.getElem?_eq_getElem h]

/-- TkOpen, TkClose and TkText of a node. -/
def opT (t : Tk) : Tk := ⟨1, t.name, t.attrs, ⟨#[]⟩⟩
def clT (t : Tk) : Tk := ⟨2, t.name, [], ⟨#[]⟩⟩
def txT (t : Tk) : Tk := ⟨3, ⟨#[]⟩, [], t.text⟩

/-- The tokens of the node there and of all that it has. -/
def tokN (ts : List Tk) : Nat → Nat → List Tk
  | 0, _ => []
  | f + 1, k => if (nodeAt ts k).name.size = 0 then [txT (nodeAt ts k)] else opT (nodeAt ts k) :: ((kidsTo ts k (endN ts k)).flatMap (tokN ts f) ++ [clT (nodeAt ts k)])

theorem endN_stop {ts : List Tk} {k : Nat} (h : k < ts.length) : endN ts k = ts.length ∨ parI ts (endN ts k) < (k : Int) := by
  rcases Nat.lt_or_ge (endN ts k) ts.length with h' | h'
  · right
    by_cases q : parI ts (endN ts k) < (k : Int)
    · exact q
    · exfalso
      have hle := endN_le h
      have key : ∀ m, k + 1 + m ≤ ts.length → ((ts.drop (k + 1)).takeWhile fun t => decide ((k : Int) ≤ t.kind)).length = m → k + 1 + m < ts.length → parI ts (k + 1 + m) < (k : Int) := by
        intro m hm hl hlt
        have hsub := List.takeWhile_append_dropWhile (p := fun t : Tk => decide ((k : Int) ≤ t.kind)) (l := ts.drop (k + 1))
        have hd : m < (ts.drop (k + 1)).length := by rw [List.length_drop]; omega
        have e1 : (ts.drop (k + 1))[m] = ts[k + 1 + m] := List.getElem_drop ..
        have hne : ((ts.drop (k + 1)).dropWhile fun t => decide ((k : Int) ≤ t.kind)) ≠ [] := by
          intro e0
          have := congrArg List.length hsub
          rw [List.length_append, e0, hl, List.length_nil] at this
          omega
        have hhd := List.head_dropWhile_not (fun t : Tk => decide ((k : Int) ≤ t.kind)) hne
        have e2 : ((ts.drop (k + 1)).dropWhile fun t => decide ((k : Int) ≤ t.kind)).head hne = ts[k + 1 + m] := by
          rw [← e1, List.head_eq_getElem]
          have : (ts.drop (k + 1))[m]? = some (((ts.drop (k + 1)).dropWhile fun t => decide ((k : Int) ≤ t.kind))[0]'(List.length_pos_iff.2 hne)) := by
            conv => lhs; rw [← hsub]
            rw [List.getElem?_append_right (by omega), hl, Nat.sub_self, List.getElem?_eq_getElem (List.length_pos_iff.2 hne)]
          rw [List.getElem?_eq_getElem hd] at this
          exact (Option.some.inj this).symm
        rw [e2] at hhd
        rw [parI_at hlt]
        simpa using hhd
      exact q (key _ hle.2 rfl h')
  · left
    have := endN_le h
    omega

theorem endN_min {ts : List Tk} {k e : Nat} (hk : k < ts.length) (he : k < e) (hp : e < ts.length → parI ts e < (k : Int)) (hle : e ≤ ts.length) : endN ts k ≤ e := by
  rcases Nat.lt_or_ge e (endN ts k) with h | h
  · exfalso
    have h2 := endN_le hk
    have h3 := hp (by omega)
    have h4 : (k : Int) ≤ parI ts e := by
      have hm : e - (k + 1) < ((ts.drop (k + 1)).takeWhile fun t => decide ((k : Int) ≤ t.kind)).length := by unfold endN at h; omega
      have h5 := List.all_eq_true.1 (List.all_takeWhile (p := fun t : Tk => decide ((k : Int) ≤ t.kind)) (l := ts.drop (k + 1))) _ (List.getElem_mem hm)
      have e1 : ((ts.drop (k + 1)).takeWhile fun t => decide ((k : Int) ≤ t.kind))[e - (k + 1)] = (ts.drop (k + 1))[e - (k + 1)]'(by rw [List.length_drop]; omega) :=
        (List.takeWhile_prefix _).getElem hm
      rw [e1, List.getElem_drop] at h5
      have e2 : k + 1 + (e - (k + 1)) = e := by omega
      simp only [e2] at h5
      rw [parI_at (by omega)]
      simpa using h5
    omega
  · exact h

/-- Of a kid: it ends ahead of the next one, and within. -/
theorem kid_end {ts : List Tk} {k i : Nat} (hk : k < ts.length) (hi : k < i) (hie : i < endN ts k) : endN ts i ≤ endN ts k ∧ ∀ j, i < j → j < ts.length → parI ts j = (k : Int) → endN ts i ≤ j := by
  have hle := endN_le hk
  refine ⟨?_, fun j hj hjn hp => ?_⟩
  · rcases endN_stop hk with h | h
    · rw [h]
      exact (endN_le (by omega)).2
    · exact endN_min (by omega) hie (fun _ => by omega) hle.2
  · exact endN_min (by omega) hj (fun _ => by omega) (by omega)

theorem kids_len {ts : List Tk} {k : Nat} (L : Nat → Nat) (hk : k < ts.length) (hL : ∀ i, k < i → i < endN ts k → L i ≤ 2 * (endN ts i - i)) :
    ∀ e, k < e → e ≤ endN ts k → ∃ m, k + 1 ≤ m ∧ m ≤ endN ts k ∧ ((kidsTo ts k e).map L).sum ≤ 2 * (m - (k + 1)) ∧ ∀ j, e ≤ j → j < endN ts k → parI ts j = (k : Int) → m ≤ j := by
  have hle := endN_le hk
  intro e
  induction e with
  | zero => intro h; omega
  | succ e ih =>
    intro h1 h2
    by_cases he : e = k
    · subst he
      refine ⟨e + 1, Nat.le_refl _, h2, ?_, fun j hj _ _ => by omega⟩
      rw [kidsTo_first]
      simp
    · obtain ⟨m, m1, m2, m3, m4⟩ := ih (by omega) (by omega)
      rw [kidsTo_next (by omega)]
      by_cases q : parI ts e = (k : Int)
      · rw [if_pos q, List.map_append, List.sum_append]
        obtain ⟨q1, q2⟩ := kid_end hk (show k < e by omega) (by omega)
        have hm := m4 e (Nat.le_refl _) (by omega) q
        have hl := hL e (by omega) (by omega)
        have he2 := endN_le (ts := ts) (k := e) (by omega)
        refine ⟨endN ts e, by omega, q1, ?_, fun j hj hjn hp => q2 j (by omega) (by omega) hp⟩
        simp only [List.map_cons, List.map_nil, List.sum_cons, List.sum_nil]
        omega
      · rw [if_neg q, List.append_nil]
        exact ⟨m, m1, m2, m3, fun j hj hjn hp => m4 j (by omega) hjn hp⟩

theorem flatMap_len {α β : Type} (f : α → List β) (l : List α) : (l.flatMap f).length = (l.map fun x => (f x).length).sum := by
  rw [List.length_flatMap]

theorem tokN_len {ts : List Tk} : ∀ f k, k < ts.length → (tokN ts f k).length ≤ 2 * (endN ts k - k)
  | 0, k, h => by simp [tokN]
  | f + 1, k, h => by
    have hle := endN_le h
    unfold tokN
    split
    · simp; omega
    · obtain ⟨m, m1, m2, m3, _⟩ := kids_len (fun i => (tokN ts f i).length) h (fun i h1 h2 => tokN_len f i (by omega)) (endN ts k) hle.1 (Nat.le_refl _)
      simp only [List.length_cons, List.length_append, List.length_nil, flatMap_len]
      omega

theorem tokKids_len {ts : List Tk} (f : Nat) {k e : Nat} (h : k < ts.length) (h1 : k < e) (h2 : e ≤ endN ts k) : ((kidsTo ts k e).flatMap (tokN ts f)).length ≤ 2 * (endN ts k - (k + 1)) := by
  obtain ⟨m, m1, m2, m3, _⟩ := kids_len (fun i => (tokN ts f i).length) h (fun i h1 h2 => tokN_len f i (by have := endN_le h; omega)) e h1 h2
  rw [flatMap_len]
  omega

theorem tokN_sz {ts : List Tk} (hz : TksSz 1048576 ts) : ∀ f k, TksSz 1048576 (tokN ts f k)
  | 0, k => fun t ht => by simp [tokN] at ht
  | f + 1, k => by
    have hk : TkSz 1048576 (nodeAt ts k) := by
      by_cases h : k < ts.length
      · rw [nodeAt_at h]; exact hz _ (List.getElem_mem h)
      · unfold nodeAt
        rw [List.getElem?_eq_none (by omega)]
        exact ⟨Nat.zero_le _, Nat.zero_le _, fun x hx => absurd hx List.not_mem_nil, Nat.zero_le _⟩
    obtain ⟨z1, z2, z3, z4⟩ := hk
    intro t ht
    unfold tokN at ht
    split at ht
    · rw [List.mem_singleton] at ht
      subst ht
      exact ⟨Nat.zero_le _, Nat.zero_le _, fun x hx => absurd hx List.not_mem_nil, z4⟩
    · rcases List.mem_cons.1 ht with rfl | ht
      · exact ⟨z1, z2, z3, Nat.zero_le _⟩
      · rcases List.mem_append.1 ht with ht | ht
        · obtain ⟨i, _, hi⟩ := List.mem_flatMap.1 ht
          exact tokN_sz hz f i t hi
        · rw [List.mem_singleton] at ht
          subst ht
          exact ⟨z1, Nat.zero_le _, fun x hx => absurd hx List.not_mem_nil, Nat.zero_le _⟩

end Go.Proofs.YtcjeodgfpnecgaaGreatDoor
