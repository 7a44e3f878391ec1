/- Contract of slices.Insert of one row. Contract of slices.Delete of one row. Rows of hands: their cells, one hand more behind all; the program's copiedHands. -/
import Derived.Test.YtgdfeicojgnoaaaGreatDoorM8
import Derived.Test.YtgdfeicojgnoaaaGreatDoorM7
import Derived.Lib.AppendZerosOnto
import Derived.Lib.AppendZeros
import Derived.Lib.Overlaps
import Derived.Lib.SliceRun
namespace Go.Proofs.YtgdfeicojgnoaaaGreatDoor
open Go.RowKit
set_option linter.unusedVariables false
set_option linter.unusedSimpArgs false

/-- copy of rows into a row. -/
theorem u_copy_ro (W : World) (ty : TypeId) (g o dLen dCap : Nat) (a : Addr) (sLen sCap m : Nat) (cur : Array Value) (T : TypeId) (cs : List Value) (hg : W.heap[g]? = some (.cells cur T (0, 0))) (hm : Nat.min sLen dLen = m) (hl : cs.length = m * 2)
    (hsrc : ∀ j v, cs[j]? = some v → W.cell? (a.add j) = some v) (hfit : o + cs.length ≤ cur.size) (h1 : ∀ v ∈ cs, v.oneCell' = true) :
    (Builtin.copy_ #[25, 25] ty #[.slice (some ⟨g, o, none⟩) dLen dCap, .slice (some a) sLen sCap]).run Tryz.prog W = .ok (goInt m) (W.setRow g (cur.toList.take o ++ cs ++ cur.toList.drop (o + cs.length)).toArray) := by
  obtain ⟨i0, hi, hz0, hz1, hz2⟩ := info_parts infoRoW
  have hf : (Builtin.firstCells i0.size m (.slice (some a) sLen sCap)).run Tryz.prog W = .ok cs.toArray W := run_firstCells_some W _ _ a _ _ cs (by rw [hz1]; exact hl) hsrc
  have hst := run_storeCells_at Tryz.prog g o T cs 0 cur W hg (by simpa using hfit) h1
  simp only [Nat.add_zero] at hst
  simp [Builtin.copy_, run_underlying Tryz.underlying25, Builtin.lenOf, sizeOf, typeInfo, hi, hm, hf, hst]

/-- .. as a step of the walk. -/
theorem u_wpL_copy {P : Program} (w : World) {ops : Array Oper} {rest : List Oper} {o : Oper} {a : Act} {Q : Exit → Act → World → Prop} (hgd : o.guard = none) (d s : Operand) (t t' : TypeId)
    (ho : o.op = .call { callee := .builtin .copy, args := #[d, s], argTypes := #[t, t'] }) (v u : Value) (hd : a.eval d = v) (hs : a.eval s = u) {v' : Value} {w' : World}
    (hr : (Builtin.copy_ #[t, t'] o.type #[v, u]).run P w = .ok v' w') (h : wpList P ops Q rest (a.put o.dst v') w') : wpList P ops Q (o :: rest) a w := by
  refine wpList_plain hgd fun K hK => ?_
  unfold Oper.wp execOp
  simp only [ho, resolve, invoke, builtin, Sem.run_bind, Sem.run_pure, Result.andThen_ok, List.map_toArray, List.map_cons, List.map_nil, hd, hs, hr]
  exact hK _ _ h

theorem u_step_copy {P : Program} {ops : Array Oper} {o : Oper} {a : Act} {w : World} {K : Act → World → Prop} {Q : Exit → Act → World → Prop} {E : Prop}
    (hg : o.guard = none) (d x : Operand) (dT sT : TypeId) (hop : o.op = Op.call { callee := Callee.builtin Builtin.copy, args := #[d, x], argTypes := #[dT, sT] })
    (v u : Value) (hd : a.eval d = v) (hx : a.eval x = u) {v' : Value} {w' : World} (hr : (Builtin.copy_ #[dT, sT] o.type #[v, u]).run P w = .ok v' w') (hK : K (a.put o.dst v') w') :
    if Region.wanted o (yielded ops a.tmps) = true then Oper.wp P o a w K Q else E := by
  have hw : Region.wanted o (yielded ops a.tmps) = true := by simp [Region.wanted, hg]
  rw [if_pos hw]
  unfold Oper.wp
  simp [execOp, hop, resolve, invoke, builtin, hd, hx, hr, Result.andThen]
  exact hK

set_option maxRecDepth 8000 in
set_option maxHeartbeats 4000000 in
/-- Behind all that is there. -/
theorem cInsEnd (B c h n : Nat) (a : Option Addr) (l : List Ro) (x : Ro) (w : World) (hO : w.ownsRow B 83 2 (.slice a n c) n (roC l)) (hl : l.length = n) (hx : w.heap[h]? = some (.cells #[.string x.id, .int .i64 x.til] 83 (0, 0))) (hB : B ≤ w.heap.size) (hn : n ≤ 1000) :
    Calls Tryz.prog 133 #[.slice a n c, .int .i64 (n : Int), .slice (some ⟨h, 0, none⟩) 1 1] w fun e w' => ∃ v', e = .returned v' ∧ w'.ownsRow B 83 2 v' (n + 1) (roC (l ++ [x])) ∧ Below B w w' := by
  obtain ⟨i0, hi, hz0, hz1, hz2⟩ := info_parts infoRoW
  have HI := hid (And.intro hi (And.intro hz0 (And.intro hz1 hz2)))
  clear hi hz0 hz1 hz2
  have HO := hid hO
  have HBB := hid hB
  have HXC := hid (show ∀ j u, (roC [x])[j]? = some u → w.cell? ((⟨h, 0, none⟩ : Addr).add j) = some u from fun j u hj => by
    rw [u_add_plainW, Nat.zero_add, Lib.cell_of_heap hx]
    simpa [roC] using hj)
  have HLX := hid (show roC (l ++ [x]) = roC l ++ roC [x] from roC_app _ _)
  have hsl : ∀ W, (Instr.slice 25 (.slice a n c) (some (.int .i64 (n : Int))) none none).run Tryz.prog W = .ok (.slice (a.map fun ad => if c = n then ad else ad.add (n * 2)) 0 (c - n)) W := by
    intro W
    rcases hO.2 with ⟨e, _⟩ | ⟨g, cap, cur, e, _, _, hc, _⟩
    · cases e
      go_simp
    · cases e
      rw [sl_fromR g 0 n c n (Nat.le_refl _) hc W]
      simp [u_add_plainW]
  have hnn : (n : Int) = (n : Int) := rfl
  clear hO hx hB hl
  generalize a.map (fun ad => if c = n then ad else ad.add (n * 2)) = A1 at *
  go_enter Tryz.func133, Tryz.ntmps133
  go_wp2_with (at_builtin; refine wpList_append_own_at _ rfl _ _ 25 rfl B 83 i0 _ 2 24 Tryz.underlying25 HI.out.1 HI.out.2.1 HI.out.2.2.1 HI.out.2.2.2 rfl (by decide) _ n (roC l) rfl HO.out ⟨h, 0, none⟩ 1 1 (roC [x]) rfl rfl HXC.out (roC_one _) (by unfold maxLen; omega) (by omega) HBB.out ?_)
  intro v' w4 ho4 hg4 _ _
  have HO4 := hid ho4
  have HB5 := hid ((Below.refl B w).grown hg4 HBB.out (fun k e => (HO.out.lt k e).1))
  clear ho4 hg4
  go_wp2_with fail
  go_ret
  exact ⟨v', rfl, by rw [HLX.out]; exact HO4.out, HB5.out⟩

theorem insR_cells {A cs xs : List Value} {k n : Nat} (hA : A.take (n * 2) = cs) (hc : cs.length = n * 2) (hx : xs.length = 2) (hk : k ≤ n) (hl : (n + 1) * 2 ≤ A.length) :
    (((A.take ((k + 1) * 2) ++ cs.drop (k * 2) ++ A.drop ((k + 1) * 2 + (n - k) * 2)).take (k * 2) ++ xs ++ (A.take ((k + 1) * 2) ++ cs.drop (k * 2) ++ A.drop ((k + 1) * 2 + (n - k) * 2)).drop (k * 2 + 2)).take ((n + 1) * 2) = cs.take (k * 2) ++ xs ++ cs.drop (k * 2))
    ∧ ((A.take ((k + 1) * 2) ++ cs.drop (k * 2) ++ A.drop ((k + 1) * 2 + (n - k) * 2)).take (k * 2) ++ xs ++ (A.take ((k + 1) * 2) ++ cs.drop (k * 2) ++ A.drop ((k + 1) * 2 + (n - k) * 2)).drop (k * 2 + 2)).length = A.length := by
  have h1 : (A.take ((k + 1) * 2)).length = (k + 1) * 2 := by rw [List.length_take]; omega
  have h2 : (cs.drop (k * 2)).length = (n - k) * 2 := by rw [List.length_drop, hc]; omega
  have e1 : (A.take ((k + 1) * 2) ++ cs.drop (k * 2) ++ A.drop ((k + 1) * 2 + (n - k) * 2)).take (k * 2) = cs.take (k * 2) := by
    rw [List.append_assoc, List.take_append_of_le_length (by rw [h1]; omega), List.take_take, ← hA, List.take_take]
    congr 1
    omega
  have e2 : (A.take ((k + 1) * 2) ++ cs.drop (k * 2) ++ A.drop ((k + 1) * 2 + (n - k) * 2)).drop (k * 2 + 2) = cs.drop (k * 2) ++ A.drop ((k + 1) * 2 + (n - k) * 2) := by
    rw [List.append_assoc, List.drop_append_of_le_length (by rw [h1]; omega)]
    rw [List.drop_of_length_le (by rw [h1]; omega), List.nil_append]
  have h3 : (cs.take (k * 2)).length = k * 2 := by rw [List.length_take, hc]; omega
  rw [e1, e2]
  refine ⟨?_, ?_⟩
  · rw [← List.append_assoc]
    refine List.take_left' ?_
    rw [List.length_append, List.length_append, h3, hx, h2]
    omega
  · simp only [List.length_append, h3, hx, h2, List.length_drop]
    omega

theorem insG_cells {Z cs xs : List Value} {k n : Nat} (hc : cs.length = n * 2) (hx : xs.length = 2) (hk : k < n) (hl : (n + 1 - k) * 2 ≤ Z.length) :
    (((cs.take (k * 2) ++ Z).take (k * 2) ++ xs ++ (cs.take (k * 2) ++ Z).drop (k * 2 + 2)).take ((k + 1) * 2) ++ cs.drop (k * 2) ++ ((cs.take (k * 2) ++ Z).take (k * 2) ++ xs ++ (cs.take (k * 2) ++ Z).drop (k * 2 + 2)).drop ((k + 1) * 2 + (n - k) * 2)).take ((n + 1) * 2) = cs.take (k * 2) ++ xs ++ cs.drop (k * 2)
    ∧ (((cs.take (k * 2) ++ Z).take (k * 2) ++ xs ++ (cs.take (k * 2) ++ Z).drop (k * 2 + 2)).take ((k + 1) * 2) ++ cs.drop (k * 2) ++ ((cs.take (k * 2) ++ Z).take (k * 2) ++ xs ++ (cs.take (k * 2) ++ Z).drop (k * 2 + 2)).drop ((k + 1) * 2 + (n - k) * 2)).length = k * 2 + Z.length := by
  have h3 : (cs.take (k * 2)).length = k * 2 := by rw [List.length_take, hc]; omega
  have h2 : (cs.drop (k * 2)).length = (n - k) * 2 := by rw [List.length_drop, hc]; omega
  have e1 : (cs.take (k * 2) ++ Z).take (k * 2) = cs.take (k * 2) := List.take_left' h3
  rw [e1]
  have e2 : (cs.take (k * 2) ++ xs ++ (cs.take (k * 2) ++ Z).drop (k * 2 + 2)).take ((k + 1) * 2) = cs.take (k * 2) ++ xs := List.take_left' (by rw [List.length_append, h3, hx]; omega)
  rw [e2]
  refine ⟨List.take_left' (by simp only [List.length_append, h3, hx, h2]; omega), ?_⟩
  simp only [List.length_append, h3, hx, h2, List.length_drop]
  omega

theorem sl_uptoC (b o L cap k : Nat) (h : k ≤ cap) (W : World) : (Instr.slice 25 (.slice (some ⟨b, o, none⟩) L cap) none (some (.int .i64 k)) none).run Tryz.prog W = .ok (.slice (some ⟨b, o, none⟩) k cap) W := by
  have h2 : (k : Int) ≤ cap := by omega
  have h3 : ¬ cap < k := by omega
  go_simp

/-- The fact that tells where a row lies, from its own text. -/
theorem own_at {w : World} {B n : Nat} {a : Option Addr} {c : Nat} {xs : List Value} (h : w.ownsRow B 83 2 (.slice a n c) n xs) (h0 : 0 < n) : ∃ g cur, a = some ⟨g, 0, none⟩ ∧ B ≤ g ∧ w.heap[g]? = some (.cells cur 83 (0, 0)) ∧ n ≤ c ∧ c ≤ maxLen ∧ cur.size = c * 2 ∧ cur.toList.take (n * 2) = xs ∧ xs.length = n * 2 := by
  rcases h.2 with ⟨e, h1⟩ | ⟨g, cap, cur, e, h1, h2, h3, h4, h5, h6⟩
  · omega
  · cases e
    exact ⟨g, cur, rfl, h1, h2, h3, h4, h5, h6, h.1⟩

theorem mk_own {w : World} {B n g c : Nat} {cur : Array Value} {xs : List Value} (h1 : B ≤ g) (h2 : w.heap[g]? = some (.cells cur 83 (0, 0))) (h3 : n ≤ c) (h4 : c ≤ maxLen) (h5 : cur.size = c * 2) (h6 : cur.toList.take (n * 2) = xs) (h7 : xs.length = n * 2) :
    w.ownsRow B 83 2 (.slice (some ⟨g, 0, none⟩) n c) n xs := ⟨h7, .inr ⟨g, c, cur, rfl, h1, h2, h3, h4, h5, h6⟩⟩

theorem row_at {w : World} {g : Nat} {cur : Array Value} {T : TypeId} {n : Nat} {xs : List Value} (h : w.heap[g]? = some (.cells cur T (0, 0))) (ht : cur.toList.take (n * 2) = xs) (k : Nat) : ∀ j v, (xs.drop (k * 2))[j]? = some v → w.cell? ((⟨g, k * 2, none⟩ : Addr).add j) = some v := by
  intro j v hj
  rw [List.getElem?_drop, ← ht] at hj
  rw [u_add_plainW, Lib.cell_of_heap h]
  rw [List.getElem?_take] at hj
  split at hj
  · rw [← Array.getElem?_toList]; exact hj
  · cases hj

set_option maxRecDepth 8000 in
set_option maxHeartbeats 8000000 in
/-- In the midst, with room. -/
theorem cInsRoom (B c g h n k : Nat) (cur : Array Value) (l : List Ro) (x : Ro) (w : World) (hg : w.heap[g]? = some (.cells cur 83 (0, 0))) (hBg : B ≤ g) (hc : c ≤ maxLen) (hcs : cur.size = c * 2) (ht : cur.toList.take (n * 2) = roC l)
    (hl : l.length = n) (hx : w.heap[h]? = some (.cells #[.string x.id, .int .i64 x.til] 83 (0, 0))) (hne : ¬ h = g) (hn : n ≤ 1000) (hk : k < n) (hroom : n + 1 ≤ c) :
    Calls Tryz.prog 133 #[.slice (some ⟨g, 0, none⟩) n c, .int .i64 (k : Int), .slice (some ⟨h, 0, none⟩) 1 1] w fun e w' => ∃ v', e = .returned v' ∧ w'.ownsRow B 83 2 v' (n + 1) (roC (insR l k x)) ∧ Below B w w' := by
  have hlen : (roC l).length = n * 2 := by rw [roC_len, hl]
  have hA : (n + 1) * 2 ≤ cur.toList.length := by rw [Array.length_toList, hcs]; omega
  obtain ⟨F1, F2⟩ := insR_cells (k := k) (xs := roC [x]) ht hlen rfl (Nat.le_of_lt hk) hA
  have hlk : ((roC l).drop (k * 2)).length = (n - k) * 2 := by rw [List.length_drop, hlen]; omega
  obtain ⟨A1, hA1⟩ : ∃ A1 : List Value, cur.toList.take ((k + 1) * 2) ++ (roC l).drop (k * 2) ++ cur.toList.drop ((k + 1) * 2 + (n - k) * 2) = A1 := ⟨_, rfl⟩
  rw [hA1] at F1 F2
  have hA1l : A1.length = cur.size := by
    rw [← hA1]
    simp only [List.length_append, List.length_take, List.length_drop, hlk, Array.length_toList]
    simp only [Array.length_toList] at hA
    omega
  obtain ⟨A2, hA2⟩ : ∃ A2 : List Value, A1.take (k * 2) ++ roC [x] ++ A1.drop (k * 2 + 2) = A2 := ⟨_, rfl⟩
  rw [hA2] at F1 F2
  -- the two copies
  have hcp1 : ∀ ty dc sc, (Builtin.copy_ #[25, 25] ty #[.slice (some ⟨g, (k + 1) * 2, none⟩) (n - k) dc, .slice (some ⟨g, k * 2, none⟩) (n + 1 - k) sc]).run Tryz.prog w.drew = .ok (goInt ((n - k : Nat) : Int)) (w.drew.setRow g A1.toArray) := fun ty dc sc => by
    have := u_copy_ro w.drew ty g ((k + 1) * 2) (n - k) dc ⟨g, k * 2, none⟩ (n + 1 - k) sc (n - k) cur 83 ((roC l).drop (k * 2)) hg (by simp only [Nat.min_def]; split <;> omega) hlk (row_at hg ht k) (by rw [hlk, hcs]; omega) (fun v hv => roC_one l v (List.mem_of_mem_drop hv))
    rw [hlk, hA1] at this
    exact this
  have hw1 : (w.drew.setRow g A1.toArray).heap[g]? = some (.cells A1.toArray 83 (0, 0)) := setRow_heap _ _ _ _ _ _ hg
  have hxw : (w.drew.setRow g A1.toArray).heap[h]? = some (.cells #[.string x.id, .int .i64 x.til] 83 (0, 0)) := (setRow_other _ _ _ _ hne).trans hx
  have hcp2 : ∀ ty dc, (Builtin.copy_ #[25, 25] ty #[.slice (some ⟨g, k * 2, none⟩) (n + 1 - k) dc, .slice (some ⟨h, 0, none⟩) 1 1]).run Tryz.prog (w.drew.setRow g A1.toArray) = .ok (goInt 1) ((w.drew.setRow g A1.toArray).setRow g A2.toArray) := fun ty dc => by
    have := u_copy_ro (w.drew.setRow g A1.toArray) ty g (k * 2) (n + 1 - k) dc ⟨h, 0, none⟩ 1 1 1 A1.toArray 83 (roC [x]) hw1 (by simp only [Nat.min_def]; split <;> omega) rfl (fun j u hj => by
      rw [u_add_plainW, Nat.zero_add, Lib.cell_of_heap hxw]
      simpa [roC] using hj) (by rw [List.size_toArray, hA1l, hcs]; show k * 2 + 2 ≤ c * 2; omega) (roC_one _)
    have e2 : (roC [x]).length = 2 := rfl
    simp only [e2] at this
    rw [hA2] at this
    exact this
  have hw2 : ((w.drew.setRow g A1.toArray).setRow g A2.toArray).heap[g]? = some (.cells A2.toArray 83 (0, 0)) := setRow_heap _ _ _ _ _ _ hw1
  have HOwn := hid (mk_own (n := n + 1) (c := c) hBg hw2 hroom hc (by rw [List.size_toArray, F2, Array.length_toList, hcs]) (by show A2.take ((n + 1) * 2) = _; rw [F1, roC_take, roC_drop, ← roC_app, ← roC_app]) (show (roC (l.take k ++ [x] ++ l.drop k)).length = (n + 1) * 2 by rw [roC_len, List.length_append, List.length_append, List.length_take, List.length_drop, hl]; simp; omega))
  have HIR := hid (show l.take k ++ [x] ++ l.drop k = insR l k x by unfold insR; rw [List.append_assoc]; rfl)
  have HBW := hid (show Below B w ((w.drew.setRow g A1.toArray).setRow g A2.toArray) from below_setRow (below_setRow (Below.refl B w).drew hBg _) hBg _)
  -- overlaps
  have hov : ∀ lb cb, (callFunc 152 #[.slice (some ⟨h, 0, none⟩) 1 1, .slice (some ⟨g, (k + 1) * 2, none⟩) lb cb]).run Tryz.prog w = .ok (.value (.bool false)) w := fun lb cb => by
    have hsa : w.shape? h = some (83, 2) := by simp [World.shape?, hx]
    have hsb : w.shape? g = some (83, cur.size) := by simp [World.shape?, hg]
    rw [run_callFunc_extern Tryz.func152 (by kernel_rfl) (by kernel_rfl) (by kernel_rfl) (e := Extern.SlicesOverlaps.overlaps #[25, 25] #[4]) (by kernel_rfl),
      Lib.run_overlaps_apart w 25 4 83 Tryz.underlying25 2 (fun w => by obtain ⟨i0, hi, hz0, hz1, hz2⟩ := info_parts infoRoW; simp [sizeOf, typeInfo, hi, hz1]) ⟨h, 0, none⟩ ⟨g, (k + 1) * 2, none⟩ 1 1 lb cb hne 83 83 2 cur.size hsa hsb (by rw [hcs]; omega) (Lib.frozen_of_heap hx _) (Lib.frozen_of_heap hx _)]
    rfl
  have hfr := sl_fromR g 0 n c k (Nat.le_of_lt hk) (by omega)
  have hup := sl_uptoC g 0 n c (n + 1) hroom
  have hfr2 := sl_fromR g 0 (n + 1) c (k + 1) (by omega) hroom
  have hfr3 := sl_fromR g 0 (n + 1) c k (by omega) hroom
  have hnk : ¬ c = k := by omega
  have hnk1 : ¬ c = k + 1 := by omega
  simp only [hnk, hnk1, if_false, Nat.zero_add, Nat.add_sub_add_right] at hfr hfr2 hfr3
  have hkn : ¬ (k : Int) = (n : Int) := by omega
  have hneq : ((k : Int) == (n : Int)) = false := by simpa using hkn
  obtain ⟨W2, hW2⟩ : ∃ W2, (w.drew.setRow g A1.toArray).setRow g A2.toArray = W2 := ⟨_, rfl⟩
  rw [hW2] at hcp2 HOwn HBW
  obtain ⟨W1, hW1⟩ : ∃ W1, w.drew.setRow g A1.toArray = W1 := ⟨_, rfl⟩
  rw [hW1] at hcp1 hcp2
  have HC2 := hid hcp2
  have HC1 := hid hcp1
  clear hw2 hxw hw1 hA1 hA2 F1 F2 hA1l hlk hA ht hcs hg hx hl hlen hW1 hW2 hcp1 hcp2 hBg hnk1
  have HLC := hid (show n + 1 ≤ c from hroom)
  obtain ⟨k1, hk1⟩ : ∃ k1, k + 1 = k1 := ⟨_, rfl⟩
  obtain ⟨n1, hn1⟩ : ∃ n1, n + 1 = n1 := ⟨_, rfl⟩
  rw [hk1] at HC1 hov hfr2
  rw [hn1] at HC1 HC2 HOwn hfr2 hfr3 hup hroom ⊢
  have e1 : (k : Int) + 1 = (k1 : Int) := by omega
  have e2 : (n : Int) + 1 = (n1 : Int) := by omega
  have e3 : IntKind.i64.wrap (k1 : Int) = (k1 : Int) := IntWalk.i64_in _ (by omega)
  have e4 : IntKind.i64.wrap (n1 : Int) = (n1 : Int) := IntWalk.i64_in _ (by omega)
  have e5 : ¬ (c : Int) < (n1 : Int) := by omega
  have e6 : decide ((c : Int) < (n1 : Int)) = false := by simpa using e5
  clear hk1 hn1
  go_enter Tryz.func133, Tryz.ntmps133
  go_wp2_with (simp only [hov])
  go_region_law (refine u_step_copy rfl (.tmp 73) (.tmp 76) 25 25 rfl (.slice (some ⟨g, k1 * 2, none⟩) (n - k) (c - k1)) (.slice (some ⟨g, k * 2, none⟩) (n1 - k) (c - k)) (by simp [Act.eval, Act.put]) (by simp [Act.eval, Act.put]) (HC1.out _ _ _) ?_)
  go_wp2_with fail
  refine upon_run (HC2.out _ _) ?_
  go_wp2_with fail
  go_ret
  exact ⟨_, rfl, by rw [← HIR.out]; exact HOwn.out, HBW.out⟩

set_option maxRecDepth 8000 in
set_option maxHeartbeats 8000000 in
/-- In the midst, without room. -/
theorem cInsGrow (B c g h n k : Nat) (cur : Array Value) (l : List Ro) (x : Ro) (w : World) (hg : w.heap[g]? = some (.cells cur 83 (0, 0))) (hB : B ≤ w.heap.size) (hc : c ≤ maxLen) (hcs : cur.size = c * 2) (ht : cur.toList.take (n * 2) = roC l)
    (hl : l.length = n) (hx : w.heap[h]? = some (.cells #[.string x.id, .int .i64 x.til] 83 (0, 0))) (hn : n ≤ 1000) (hk : k < n) (hnc : n ≤ c) (hroom : ¬ n + 1 ≤ c) :
    Calls Tryz.prog 133 #[.slice (some ⟨g, 0, none⟩) n c, .int .i64 (k : Int), .slice (some ⟨h, 0, none⟩) 1 1] w fun e w' => ∃ v', e = .returned v' ∧ w'.ownsRow B 83 2 v' (n + 1) (roC (insR l k x)) ∧ Below B w w' := by
  have hcn : c = n := by omega
  subst hcn
  obtain ⟨i0, hi, hz0, hz1, hz2⟩ := info_parts infoRoW
  have hlen : (roC l).length = c * 2 := by rw [roC_len, hl]
  obtain ⟨m, hm⟩ : ∃ m, c + 1 - k = m := ⟨_, rfl⟩
  have hkt : ((roC l).take (k * 2)).length = k * 2 := by rw [List.length_take, hlen]; omega
  have hold : (Builtin.firstCells i0.size k (.slice (some ⟨g, 0, none⟩) k c)).run Tryz.prog w.drew = .ok ((roC l).take (k * 2)).toArray w.drew :=
    run_firstCells_some w.drew _ _ ⟨g, 0, none⟩ _ _ ((roC l).take (k * 2)) (by rw [hz1]; exact hkt) (fun j v hj => by
      rw [List.getElem?_take] at hj
      split at hj
      · have := row_at hg ht 0 j v (by simpa using hj)
        simpa using this
      · cases hj)
  have hrz : ∀ ty, (Builtin.append_ #[25, 3] ty #[.slice (some ⟨g, 0, none⟩) k c, .int .i64 (m : Int)]).run Tryz.prog w = _ := fun ty =>
    Lib.run_append_grow_zeros w 25 3 ty 83 i0 _ .i64 .i64 Tryz.underlying25 Tryz.underlying3 hi hz0 (some ⟨g, 0, none⟩) k c ((roC l).take (k * 2)) hold m (by omega) (by rw [hz1]; decide) (by omega) (by omega) (by rw [hz2]; omega) (growslice_fits (by omega) (by rw [hz2]; omega))
  have hkm : k + m = c + 1 := by omega
  rw [hkm] at hrz
  have hGn := grownCap_ge w (c + 1) c 83
  have hGm := grownCap_le_maxLen w (c + 1) c 83 (by unfold maxLen; omega)
  obtain ⟨G, hG⟩ : ∃ G, G = grownCap w (c + 1) c 83 := ⟨_, rfl⟩
  rw [← hG] at hGn hGm
  simp only [← hG] at hrz
  obtain ⟨Z, hZ⟩ : ∃ Z : List Value, Z = (Builtin.zeroCells (Value.cells (.agg #[.string ⟨#[]⟩, .int .i64 0])) m ++ Builtin.zeroCells (Value.cells (.agg #[.string ⟨#[]⟩, .int .i64 0])) (G - (c + 1))).toList := ⟨_, rfl⟩
  have hZl : Z.length = m * 2 + (G - (c + 1)) * 2 := by
    rw [hZ, Array.length_toList, Array.size_append, size_zeroCells, size_zeroCells]
    rfl
  have hcur : ((roC l).take (k * 2)).toArray ++ Builtin.zeroCells (Value.cells (.agg #[.string ⟨#[]⟩, .int .i64 0])) m ++ Builtin.zeroCells (Value.cells (.agg #[.string ⟨#[]⟩, .int .i64 0])) (G - (c + 1)) = ((roC l).take (k * 2) ++ Z).toArray := by
    rw [hZ, Array.append_assoc]
    apply Array.toList_inj.1
    simp
  simp only [hcur] at hrz
  obtain ⟨F1, F2⟩ := insG_cells (Z := Z) (k := k) (xs := roC [x]) hlen rfl hk (by rw [hZl]; omega)
  obtain ⟨C0, hC0⟩ : ∃ C0 : List Value, (roC l).take (k * 2) ++ Z = C0 := ⟨_, rfl⟩
  have hC0l : C0.length = G * 2 := by rw [← hC0, List.length_append, hkt, hZl]; omega
  rw [hC0] at F1 F2 hrz
  obtain ⟨C1, hC1⟩ : ∃ C1 : List Value, C0.take (k * 2) ++ roC [x] ++ C0.drop (k * 2 + 2) = C1 := ⟨_, rfl⟩
  have hC1l : C1.length = G * 2 := by
    rw [← hC1]
    simp only [List.length_append, List.length_take, List.length_drop, hC0l]
    show Nat.min (k * 2) (G * 2) + 2 + (G * 2 - (k * 2 + 2)) = G * 2
    simp only [Nat.min_def]
    split <;> omega
  rw [hC1] at F1 F2
  obtain ⟨C2, hC2⟩ : ∃ C2 : List Value, C1.take ((k + 1) * 2) ++ (roC l).drop (k * 2) ++ C1.drop ((k + 1) * 2 + (c - k) * 2) = C2 := ⟨_, rfl⟩
  rw [hC2] at F1 F2
  obtain ⟨s, hs⟩ : ∃ s, w.heap.size = s := ⟨_, rfl⟩
  rw [hs] at hrz
  obtain ⟨w1, hw1⟩ : ∃ w1, w.drew.alloc (.cells C0.toArray 83) = w1 := ⟨_, rfl⟩
  have hb1 : Below w.heap.size w w1 := by rw [← hw1]; exact (Below.refl w.heap.size w).drew.alloc (Nat.le_refl _) _
  have hh1 : w1.heap[s]? = some (.cells C0.toArray 83 (0, 0)) := by rw [← hw1, ← hs]; exact heap_alloc_new w.drew _
  simp only [hw1] at hrz
  have hx1 := u_blk_below hx hb1
  have hg1 := u_blk_below hg hb1
  have hsg : ¬ s = g := fun e => by have := lt_of_heap hg; omega
  have hcp1 : ∀ ty dc, (Builtin.copy_ #[25, 25] ty #[.slice (some ⟨s, k * 2, none⟩) (c + 1 - k) dc, .slice (some ⟨h, 0, none⟩) 1 1]).run Tryz.prog w1 = .ok (goInt 1) (w1.setRow s C1.toArray) := fun ty dc => by
    have := u_copy_ro w1 ty s (k * 2) (c + 1 - k) dc ⟨h, 0, none⟩ 1 1 1 C0.toArray 83 (roC [x]) hh1 (by simp only [Nat.min_def]; split <;> omega) rfl (fun j u hj => by
      rw [u_add_plainW, Nat.zero_add, Lib.cell_of_heap hx1]
      simpa [roC] using hj) (by rw [List.size_toArray, hC0l]; show k * 2 + 2 ≤ G * 2; omega) (roC_one _)
    have e2 : (roC [x]).length = 2 := rfl
    simp only [e2] at this
    rw [hC1] at this
    exact this
  have hh2 : (w1.setRow s C1.toArray).heap[s]? = some (.cells C1.toArray 83 (0, 0)) := setRow_heap _ _ _ _ _ _ hh1
  have hg2 : (w1.setRow s C1.toArray).heap[g]? = some (.cells cur 83 (0, 0)) := (setRow_other _ _ _ _ (fun e => hsg e.symm)).trans hg1
  have hlk : ((roC l).drop (k * 2)).length = (c - k) * 2 := by rw [List.length_drop, hlen]; omega
  have hcp2 : ∀ ty dc sc, (Builtin.copy_ #[25, 25] ty #[.slice (some ⟨s, (k + 1) * 2, none⟩) (c - k) dc, .slice (some ⟨g, k * 2, none⟩) (c - k) sc]).run Tryz.prog (w1.setRow s C1.toArray).drew = .ok (goInt ((c - k : Nat) : Int)) ((w1.setRow s C1.toArray).drew.setRow s C2.toArray) := fun ty dc sc => by
    have := u_copy_ro (w1.setRow s C1.toArray).drew ty s ((k + 1) * 2) (c - k) dc ⟨g, k * 2, none⟩ (c - k) sc (c - k) C1.toArray 83 ((roC l).drop (k * 2)) hh2 (by simp [Nat.min_def]) hlk (row_at (w := (w1.setRow s C1.toArray).drew) hg2 ht k) (by rw [hlk, List.size_toArray, hC1l]; omega) (fun v hv => roC_one l v (List.mem_of_mem_drop hv))
    rw [hlk] at this
    rw [hC2] at this
    exact this
  have hh3 : ((w1.setRow s C1.toArray).drew.setRow s C2.toArray).heap[s]? = some (.cells C2.toArray 83 (0, 0)) := setRow_heap _ _ _ _ _ _ hh2
  have HOwn := hid (mk_own (B := B) (n := c + 1) (c := G) (by omega) hh3 hGn hGm (by rw [List.size_toArray, F2, hZl]; omega) (by show C2.take ((c + 1) * 2) = _; rw [F1, roC_take, roC_drop, ← roC_app, ← roC_app]) (show (roC (l.take k ++ [x] ++ l.drop k)).length = (c + 1) * 2 by rw [roC_len, List.length_append, List.length_append, List.length_take, List.length_drop, hl]; simp; omega))
  have HIR := hid (show l.take k ++ [x] ++ l.drop k = insR l k x by unfold insR; rw [List.append_assoc]; rfl)
  have HBW := hid (show Below B w ((w1.setRow s C1.toArray).drew.setRow s C2.toArray) from below_setRow (below_setRow (hb1.mono hB) (by omega) _).drew (by omega) _)
  have hfr := sl_fromR g 0 c c k (Nat.le_of_lt hk) (Nat.le_refl _)
  have hup := sl_uptoR g 0 c c k (Nat.le_of_lt hk) (Nat.le_refl _)
  have hfr2 := sl_fromR s 0 (c + 1) G k (by omega) hGn
  have hfr3 := sl_fromR s 0 (c + 1) G (k + 1) (by omega) hGn
  have hnk : ¬ c = k := by omega
  have hnk1 : ¬ G = k + 1 := by omega
  have hnk2 : ¬ G = k := by omega
  simp only [hnk, hnk1, hnk2, if_false, Nat.zero_add, Nat.add_sub_add_right] at hfr hfr2 hfr3
  have hkn : ¬ (k : Int) = (c : Int) := by omega
  have hneq : ((k : Int) == (c : Int)) = false := by simpa using hkn
  obtain ⟨W2, hW2⟩ : ∃ W2, (w1.setRow s C1.toArray) = W2 := ⟨_, rfl⟩
  rw [hW2] at hcp1 hcp2 HOwn HBW
  obtain ⟨W3, hW3⟩ : ∃ W3, W2.drew.setRow s C2.toArray = W3 := ⟨_, rfl⟩
  rw [hW3] at hcp2 HOwn HBW
  have HC1 := hid hcp1
  have HC2 := hid hcp2
  have HRZ := hid hrz
  have hG1 : (k : Int) ≤ (c : Int) := by omega
  obtain ⟨k1, hk1⟩ : ∃ k1, k + 1 = k1 := ⟨_, rfl⟩
  obtain ⟨n1, hn1⟩ : ∃ n1, c + 1 = n1 := ⟨_, rfl⟩
  rw [hk1] at HC2 hfr3
  rw [hn1] at HC1 HOwn hfr2 hfr3 HRZ ⊢
  have e1 : (k : Int) + 1 = (k1 : Int) := by omega
  have e2 : (c : Int) + 1 = (n1 : Int) := by omega
  have e3 : IntKind.i64.wrap (k1 : Int) = (k1 : Int) := IntWalk.i64_in _ (by omega)
  have e4 : IntKind.i64.wrap (n1 : Int) = (n1 : Int) := IntWalk.i64_in _ (by omega)
  have e5 : (c : Int) < (n1 : Int) := by omega
  have e6 : decide ((c : Int) < (n1 : Int)) = true := by simpa using e5
  have e7 : (n1 : Int) - (k : Int) = (m : Int) := by omega
  have e8 : IntKind.i64.wrap (m : Int) = (m : Int) := IntWalk.i64_in _ (by omega)
  clear hcp1 hcp2 hrz hW2 hW3 hh3 hlk hg2 hh2 hsg hg1 hx1 hh1 hb1 hw1 hs F1 F2 hC2 hC1 hC1l hC0 hC0l hcur hZl hZ hGn hGm hG hkm hold hkt hlen hi hz0 hz1 hz2 ht hcs hg hx hc hk1 hn1 hm hl hnc hroom hB hnk1 hnk2
  go_enter Tryz.func133, Tryz.ntmps133
  go_wp2_with (at_builtin; refine Lib.wpList_append_run _ rfl _ _ _ _ rfl _ _ rfl rfl _ _ (HRZ.out _) ?_)
  refine upon_run (HC1.out _ _) ?_
  go_wp2_with fail
  go_region_law (refine u_step_copy rfl (.tmp 50) (.tmp 53) 25 25 rfl (.slice (some ⟨s, k1 * 2, none⟩) (c - k) (G - k1)) (.slice (some ⟨g, k * 2, none⟩) (c - k) (c - k)) (by simp [Act.eval, Act.put]) (by simp [Act.eval, Act.put]) (HC2.out _ _ _) ?_)
  go_wp2_with fail
  go_ret
  exact ⟨_, rfl, by rw [← HIR.out]; exact HOwn.out, HBW.out⟩

/-- A row put in. -/
theorem cInsert (B c h n k : Nat) (a : Option Addr) (l : List Ro) (x : Ro) (w : World) (hO : w.ownsRow B 83 2 (.slice a n c) n (roC l)) (hl : l.length = n) (hx : w.heap[h]? = some (.cells #[.string x.id, .int .i64 x.til] 83 (0, 0))) (hB : B ≤ w.heap.size)
    (hne : ∀ g, a = some ⟨g, 0, none⟩ → ¬ h = g) (hn : n ≤ 1000) (hk : k ≤ n) :
    Calls Tryz.prog 133 #[.slice a n c, .int .i64 (k : Int), .slice (some ⟨h, 0, none⟩) 1 1] w fun e w' => ∃ v', e = .returned v' ∧ w'.ownsRow B 83 2 v' (n + 1) (roC (insR l k x)) ∧ Below B w w' := by
  rcases Nat.lt_or_eq_of_le hk with h1 | h1
  · obtain ⟨g, cur, rfl, hBg, hg, hnc, hc, hcs, ht, _⟩ := own_at hO (by omega)
    by_cases hr : n + 1 ≤ c
    · exact cInsRoom B c g h n k cur l x w hg hBg hc hcs ht hl hx (hne g rfl) hn h1 hr
    · exact cInsGrow B c g h n k cur l x w hg hB hc hcs ht hl hx hn h1 hnc hr
  · subst h1
    have e : insR l k x = l ++ [x] := by
      unfold insR
      rw [List.take_of_length_le (by omega), List.drop_of_length_le (by omega)]
    rw [e]
    exact cInsEnd B c h k a l x w hO hl hx hB hn

end Go.Proofs.YtgdfeicojgnoaaaGreatDoor

namespace Go.Proofs.YtgdfeicojgnoaaaGreatDoor
open Go.RowKit
set_option linter.unusedVariables false
set_option linter.unusedSimpArgs false

theorem u_step_app {P : Program} {ops : Array Oper} {o : Oper} {a : Act} {w : World} {K : Act → World → Prop} {Q : Exit → Act → World → Prop} {E : Prop}
    (hg : o.guard = none) (d x : Operand) (dT sT : TypeId) (hop : o.op = Op.call { callee := Callee.builtin Builtin.append, args := #[d, x], argTypes := #[dT, sT] })
    (v u : Value) (hd : a.eval d = v) (hx : a.eval x = u) {v' : Value} {w' : World} (hr : (Builtin.append_ #[dT, sT] o.type #[v, u]).run P w = .ok v' w') (hK : K (a.put o.dst v') w') :
    if Region.wanted o (yielded ops a.tmps) = true then Oper.wp P o a w K Q else E := by
  have hw : Region.wanted o (yielded ops a.tmps) = true := by simp [Region.wanted, hg]
  rw [if_pos hw]
  unfold Oper.wp
  simp [execOp, hop, resolve, invoke, builtin, hd, hx, hr, Result.andThen]
  exact hK

theorem sl_cutR (b o L cap f t mx : Nat) (h : f ≤ t) (ht : t ≤ mx) (hm : mx ≤ cap) (W : World) : (Instr.slice 25 (.slice (some ⟨b, o, none⟩) L cap) (some (.int .i64 f)) (some (.int .i64 t)) (some (.int .i64 mx))).run Tryz.prog W = .ok (.slice (some (if mx = f then ⟨b, o, none⟩ else ⟨b, o + f * 2, none⟩)) (t - f) (mx - f)) W := by
  have h1 : (f : Int) ≤ t := by omega
  have h2 : (t : Int) ≤ mx := by omega
  have h3 : (mx : Int) ≤ cap := by omega
  have h4 : ¬ cap < mx := by omega
  go_simp
  by_cases e : mx = f <;> simp [e, Addr.add]

/-- Nothing, as a row. -/
def zRo : List Value := [.string ⟨#[]⟩, .int .i64 0]

/-- One row made nothing. -/
theorem u_clear_one (W : World) (ty : TypeId) (g o cp : Nat) (cur : Array Value) (T : TypeId) (hg : W.heap[g]? = some (.cells cur T (0, 0))) (hfit : o + 2 ≤ cur.size) :
    (Builtin.clear_ #[25] ty #[.slice (some ⟨g, o, none⟩) 1 cp]).run Tryz.prog W = .ok (.tuple #[]) (W.setRow g (cur.toList.take o ++ zRo ++ cur.toList.drop (o + 2)).toArray) := by
  have hst := run_storeCells_at Tryz.prog g o T zRo 0 cur W hg (by show o + 0 + 2 ≤ _; omega) (by intro v hv; simp [zRo] at hv; rcases hv with rfl | rfl <;> rfl)
  have e2 : zRo.length = 2 := rfl
  simp only [Nat.add_zero, e2] at hst
  have hz : ∀ W, (zeroValue 83).run Tryz.prog W = .ok (.agg #[.string ⟨#[]⟩, .int .i64 0]) W := fun W => by simp [go_sem]
  have hzc : (Builtin.zeroCells (Value.cells (.agg #[.string ⟨#[]⟩, .int .i64 0])) 1).toList = zRo := by first | rfl | (simp [Builtin.zeroCells, Value.cells, zRo]; rfl)
  simp [Builtin.clear_, run_underlying Tryz.underlying25, hz, hzc, hst]

theorem del_cells {A cs zs : List Value} {k n : Nat} (hA : A.take (n * 2) = cs) (hc : cs.length = n * 2) (hz : zs.length = 2) (hk : k < n) (hl : n * 2 ≤ A.length) :
    ((((A.take (k * 2) ++ cs.drop ((k + 1) * 2) ++ A.drop (k * 2 + (n - (k + 1)) * 2)).take ((n - 1) * 2) ++ zs ++ (A.take (k * 2) ++ cs.drop ((k + 1) * 2) ++ A.drop (k * 2 + (n - (k + 1)) * 2)).drop ((n - 1) * 2 + 2))).take ((n - 1) * 2) = cs.take (k * 2) ++ cs.drop ((k + 1) * 2))
    ∧ ((A.take (k * 2) ++ cs.drop ((k + 1) * 2) ++ A.drop (k * 2 + (n - (k + 1)) * 2)).take ((n - 1) * 2) ++ zs ++ (A.take (k * 2) ++ cs.drop ((k + 1) * 2) ++ A.drop (k * 2 + (n - (k + 1)) * 2)).drop ((n - 1) * 2 + 2)).length = A.length
    ∧ (A.take (k * 2) ++ cs.drop ((k + 1) * 2) ++ A.drop (k * 2 + (n - (k + 1)) * 2)).length = A.length := by
  have h1 : (A.take (k * 2)).length = k * 2 := by rw [List.length_take]; omega
  have h2 : (cs.drop ((k + 1) * 2)).length = (n - (k + 1)) * 2 := by rw [List.length_drop, hc]; omega
  have e0 : A.take (k * 2) = cs.take (k * 2) := by
    rw [← hA, List.take_take]
    congr 1
    omega
  have e1 : (A.take (k * 2) ++ cs.drop ((k + 1) * 2) ++ A.drop (k * 2 + (n - (k + 1)) * 2)).take ((n - 1) * 2) = cs.take (k * 2) ++ cs.drop ((k + 1) * 2) := by
    rw [← e0]
    exact List.take_left' (by rw [List.length_append, h1, h2]; omega)
  have h3 : (A.take (k * 2) ++ cs.drop ((k + 1) * 2) ++ A.drop (k * 2 + (n - (k + 1)) * 2)).length = A.length := by
    simp only [List.length_append, h1, h2, List.length_drop]
    omega
  have h4 : (cs.take (k * 2)).length = k * 2 := by rw [← e0]; exact h1
  refine ⟨?_, ?_, h3⟩
  · rw [e1, List.append_assoc]
    exact List.take_left' (by rw [List.length_append, h4, h2]; omega)
  · rw [e1]
    simp only [List.length_append, h4, h2, hz, List.length_drop, h3]
    omega

end Go.Proofs.YtgdfeicojgnoaaaGreatDoor

namespace Go.Proofs.YtgdfeicojgnoaaaGreatDoor
open Go.RowKit
set_option linter.unusedVariables false
set_option linter.unusedSimpArgs false

/-- The cells of hands. -/
def hdC (l : List Hd) : List Value := l.flatMap fun x => [.string x.iss, .int .i64 x.n, .int .i64 x.e, .int .i64 x.d]

theorem hdC_len (l : List Hd) : (hdC l).length = l.length * 4 := by
  induction l with
  | nil => rfl
  | cons x l ih => show (hdC l).length + 4 = _; rw [ih, List.length_cons]; omega

theorem hdC_app (a b : List Hd) : hdC (a ++ b) = hdC a ++ hdC b := by unfold hdC; rw [List.flatMap_append]

theorem hdC_get (l : List Hd) (j : Nat) (h : j < l.length) : (hdC l)[j * 4]? = some (.string l[j].iss) ∧ (hdC l)[j * 4 + 1]? = some (.int .i64 l[j].n) ∧ (hdC l)[j * 4 + 2]? = some (.int .i64 l[j].e) ∧ (hdC l)[j * 4 + 3]? = some (.int .i64 l[j].d) := by
  induction l generalizing j with
  | nil => simp at h
  | cons x l ih =>
    have e : hdC (x :: l) = .string x.iss :: .int .i64 x.n :: .int .i64 x.e :: .int .i64 x.d :: hdC l := rfl
    rw [e]
    match j with
    | 0 => exact ⟨rfl, rfl, rfl, rfl⟩
    | j + 1 =>
      have h1 : (j + 1) * 4 = j * 4 + 1 + 1 + 1 + 1 := by omega
      have h2 : (j + 1) * 4 + 1 = (j * 4 + 1) + 1 + 1 + 1 + 1 := by omega
      have h3 : (j + 1) * 4 + 2 = (j * 4 + 2) + 1 + 1 + 1 + 1 := by omega
      have h4 : (j + 1) * 4 + 3 = (j * 4 + 3) + 1 + 1 + 1 + 1 := by omega
      rw [h2, h3, h4, h1]
      exact ih j (by simpa using h)

theorem hdC_one (l : List Hd) : ∀ u ∈ hdC l, u.oneCell' = true := by
  intro u hu
  unfold hdC at hu
  obtain ⟨x, _, hx⟩ := List.mem_flatMap.1 hu
  simp at hx
  rcases hx with rfl | rfl | rfl | rfl <;> rfl

/-- The hands are in memory of their own from B on. -/
def OwnHd (w : World) (B : Nat) (a : Option Addr) (l : List Hd) : Prop := 0 < l.length → ∃ g o cu, a = some ⟨g, o, none⟩ ∧ B ≤ g ∧ w.heap[g]? = some (.cells cu 72 (0, 0)) ∧ HdCells cu o l

theorem OwnHd.row {w : World} {B : Nat} {a : Option Addr} {l : List Hd} (h : OwnHd w B a l) : HdRow w a l := by
  intro j hj
  obtain ⟨g, o, cu, e, _, hh, hc⟩ := h (by omega)
  exact (hc.row hh) j hj |>.elim fun b ⟨o', e', r⟩ => ⟨b, o', e.trans e', r⟩

theorem OwnHd.below {w w' : World} {B : Nat} {a : Option Addr} {l : List Hd} (h : OwnHd w B a l) (hb : Below w.heap.size w w') : OwnHd w' B a l := fun hl => by
  obtain ⟨g, o, cu, e1, e2, e3, e4⟩ := h hl
  exact ⟨g, o, cu, e1, e2, u_blk_below e3 hb, e4⟩

theorem OwnHd.keep {w w' : World} {B : Nat} {p : Nat → Prop} {a : Option Addr} {l : List Hd} (h : OwnHd w B a l) (hk : u_KeepB p w w') (hp : ∀ b, p b → b < B) : OwnHd w' B a l := fun hl => by
  obtain ⟨g, o, cu, e1, e2, e3, e4⟩ := h hl
  exact ⟨g, o, cu, e1, e2, (hk.block g (lt_of_heap e3) (fun e => by have := hp g e; omega)).trans e3, e4⟩

theorem OwnHd.mono {w : World} {B B' : Nat} {a : Option Addr} {l : List Hd} (h : OwnHd w B a l) (hB : B' ≤ B) : OwnHd w B' a l := fun hl => by
  obtain ⟨g, o, cu, e1, e2, e3, e4⟩ := h hl
  exact ⟨g, o, cu, e1, Nat.le_trans hB e2, e3, e4⟩

theorem OwnHd.nil (w : World) (B : Nat) (a : Option Addr) : OwnHd w B a [] := fun h => absurd h (Nat.lt_irrefl 0)

theorem own_hd {w : World} {B : Nat} {v : Value} {n : Nat} {l : List Hd} (h : w.ownsRow B 72 4 v n (hdC l)) (hn : l.length = n) : ∃ a c, v = .slice a n c ∧ OwnHd w B a l := by
  rcases h.2 with ⟨rfl, rfl⟩ | ⟨g, cp, cur, rfl, hg, hh, hn', hc, hs, ht⟩
  · exact ⟨none, 0, rfl, fun hl => by omega⟩
  · refine ⟨_, cp, rfl, fun _ => ⟨g, 0, cur, rfl, hg, hh, fun j hj => ?_⟩⟩
    have hq : ∀ q u, (hdC l)[q]? = some u → cur[0 + q]? = some u := fun q u hu => by
      rw [← ht, List.getElem?_take] at hu
      rw [Nat.zero_add, ← Array.getElem?_toList]
      split at hu
      · exact hu
      · cases hu
    obtain ⟨g0, g1, g2, g3⟩ := hdC_get l j hj
    exact ⟨hq _ _ g0, hq _ _ g1, hq _ _ g2, hq _ _ g3⟩

theorem HdRow.sr {w : World} {a : Option Addr} {l : List Hd} {n c : Nat} (h : HdRow w a l) (hn : l.length = n) : u_Sr w 4 (.slice a n c) n (hdC l) := by
  refine ⟨⟨a, c, rfl, fun h0 => ?_⟩, by rw [hdC_len, hn]⟩
  obtain ⟨b, o, e, hb, _⟩ := h 0 (by omega)
  refine ⟨b, o, e, hb, fun j u hj => ?_⟩
  have hl : j < (hdC l).length := (List.getElem?_eq_some_iff.1 hj).1
  rw [hdC_len] at hl
  obtain ⟨b2, o2, e2, _, c0, c1, c2, c3⟩ := h (j / 4) (by omega)
  rw [e] at e2
  obtain ⟨rfl, rfl⟩ : b = b2 ∧ o = o2 := by cases e2; exact ⟨rfl, rfl⟩
  obtain ⟨k0, k1, k2, k3⟩ := hdC_get l (j / 4) (by omega)
  rcases (show j % 4 = 0 ∨ j % 4 = 1 ∨ j % 4 = 2 ∨ j % 4 = 3 by omega) with hm | hm | hm | hm
  · have ej : j / 4 * 4 = j := by omega
    rw [ej] at k0 c0
    rw [k0] at hj
    cases hj
    exact c0
  · have ej : j / 4 * 4 + 1 = j := by omega
    rw [Nat.add_assoc, ej] at c1
    rw [ej] at k1
    rw [k1] at hj
    cases hj
    exact c1
  · have ej : j / 4 * 4 + 2 = j := by omega
    rw [Nat.add_assoc, ej] at c2
    rw [ej] at k2
    rw [k2] at hj
    cases hj
    exact c2
  · have ej : j / 4 * 4 + 3 = j := by omega
    rw [Nat.add_assoc, ej] at c3
    rw [ej] at k3
    rw [k3] at hj
    cases hj
    exact c3

set_option maxRecDepth 8000 in
/-- One hand more behind all, as a run. -/
theorem hd_app {B : Nat} {v : Value} {l : List Hd} {W : World} (x : ByteArray) (n e d : Int) (hO : W.ownsRow B 72 4 v l.length (hdC l)) (hB : B ≤ W.heap.size) (hl : l.length ≤ 100000) :
    ∃ a8 c8 w8, (Builtin.append_ #[24, 24] 24 #[v, .slice (some ⟨W.heap.size, 0, none⟩) 1 1]).run Tryz.prog (W.alloc (.cells #[.string x, .int .i64 n, .int .i64 e, .int .i64 d] 72)) = .ok (.slice a8 (l.length + 1) c8) w8
      ∧ w8.ownsRow B 72 4 (.slice a8 (l.length + 1) c8) (l.length + 1) (hdC (l ++ [⟨x, n, e, d⟩])) ∧ (W.alloc (.cells #[.string x, .int .i64 n, .int .i64 e, .int .i64 d] 72)).grownBy w8 v.ownBlock := by
  obtain ⟨i0, hi0, hz0, hz1, hz2⟩ := info_parts infoHd
  have hb := (Below.refl W.heap.size W).alloc (Nat.le_refl _) (.cells #[.string x, .int .i64 n, .int .i64 e, .int .i64 d] 72)
  have ho6 := ownsRow_below hO hb
  obtain ⟨b', o', c', e', _, _, h4⟩ := (u_Rd.new W 72 4 (hdC [⟨x, n, e, d⟩]) 1 rfl).at_
  cases e'
  obtain ⟨v8, w8, hrun, r1, r2, _, _⟩ := run_append_own_at (P := Tryz.prog) (W.alloc (.cells #[.string x, .int .i64 n, .int .i64 e, .int .i64 d] 72)) B 24 24 72 i0 _ 4 40 Tryz.underlying24 hi0 hz0 hz1 hz2 rfl (by decide) v l.length (hdC l) ho6 ⟨W.heap.size, 0, none⟩ 1 1 (hdC [⟨x, n, e, d⟩]) rfl (fun j u hj => by rw [u_add_plainW]; exact h4 j u hj) (hdC_one _) (by unfold maxLen; omega) (by omega) (by have := hb.size; omega)
  obtain ⟨a8, c8, rfl⟩ := u_own_len r1
  exact ⟨a8, c8, w8, hrun, by rw [hdC_app]; exact r1, r2⟩

set_option maxRecDepth 8000 in
set_option maxHeartbeats 8000000 in
theorem cCopiedHands (a : Option Addr) (cap : Nat) (l : List Hd) (w : World) (hR : HdRow w a l) (hz : HdSz 1048576 l) (hn : l.length ≤ 100000) :
    Calls Tryz.prog 98 #[.slice a l.length cap] w fun e w' => ∃ a' c', e = .returned (.slice a' l.length c') ∧ w'.ownsRow w.heap.size 72 4 (.slice a' l.length c') l.length (hdC l) ∧ Below w.heap.size w w' := by
  have HR := hid hR
  have HZ := hid hz
  clear hR hz
  obtain ⟨n, hnn⟩ : ∃ n, l.length = n := ⟨_, rfl⟩
  have HN := hid hnn
  rw [hnn] at hn ⊢
  clear hnn
  go_enter Tryz.func98, Tryz.ntmps98
  go_wp2_with fail
  go_loopw [3, 8] (fun v k wr => ∃ i : Nat, k = .int .i64 (i : Int) ∧ i ≤ n ∧ Hid (wr.ownsRow w.heap.size 72 4 v i (hdC (l.take i))) ∧ Hid (Below w.heap.size w wr)) (fun _ k _ => n - (intOf k).toNat)
  case atStart => exact ⟨0, rfl, Nat.zero_le _, World.ownsRow_nil _ _ _ _, Below.refl _ _⟩
  case round =>
    obtain ⟨i, rfl, hin, HO, HB⟩ := hrel
    by_cases hlt : i < n
    case neg =>
      have hie : i = n := by omega
      subst hie
      have HO2 := HO.out
      rw [List.take_of_length_le (by rw [HN.out]; exact Nat.le_refl _)] at HO2
      obtain ⟨a5, c5, hv5⟩ := u_own_len HO2
      subst hv5
      have HOA := hid HO2
      clear HO2 HO
      go_wp2_with fail
      go_ret
      exact ⟨_, _, rfl, HOA.out, HB.out⟩
    have his : i < l.length := by rw [HN.out]; exact hlt
    have hinn : (i : Int) < (n : Int) := by omega
    obtain ⟨b, o, rfl, hb, c0, c1, c2, c3⟩ := (HR.out.below HB.out) i his
    have HX := hid (show l.take (i + 1) = l.take i ++ [⟨l[i].iss, l[i].n, l[i].e, l[i].d⟩] by rw [take_snocN his])
    have C := hid (fun w => c_strings_Clone l[i].iss w (HZ.out _ (List.getElem_mem his)))
    have HLI := hid (show (l.take i).length = i by rw [List.length_take]; omega)
    generalize l[i].iss = x at *
    generalize l[i].n = kn at *
    generalize l[i].e = ke at *
    generalize l[i].d = kd at *
    generalize l.take i = q at *
    have HB0 := hid (HB.out.alloc HB.out.size (.cells #[.string x, .int .i64 kn, .int .i64 ke, .int .i64 kd] 72))
    have HO0 := hid (HO.out.alloc (.cells #[.string x, .int .i64 kn, .int .i64 ke, .int .i64 kd] 72))
    have HY := hid (HdBox.new wr x kn ke kd 72)
    obtain ⟨W0, hW0⟩ : ∃ W0, wr.alloc (.cells #[.string x, .int .i64 kn, .int .i64 ke, .int .i64 kd] 72) = W0 := ⟨_, rfl⟩
    rw [hW0] at HB0 HO0 HY
    obtain ⟨D, hD⟩ : ∃ D, wr.heap.size = D := ⟨_, rfl⟩
    rw [hD] at HY
    obtain ⟨a5, c5, hv5⟩ := u_own_len HO.out
    subst hv5
    clear HO
    obtain ⟨y0, y1, y2, y3⟩ := And.intro HY.out.c0 (And.intro HY.out.c1 (And.intro HY.out.c2 HY.out.c3))
    go_wp2_with fail
    clear hW0 c0 c1 c2 c3
    have HBc := hid ((Below.refl W0.heap.size W0).drew)
    go_region_law (first
      | (go_simp; go_at_call 97; refine (C.out _).mono ?_; rintro e w6 ⟨rfl, hb6⟩; have HB6 := hid (HBc.out.trans hb6); obtain ⟨z0, z1, z2, z3⟩ := And.intro (HY.out.below HB6.out).c0 (And.intro (HY.out.below HB6.out).c1 (And.intro (HY.out.below HB6.out).c2 (HY.out.below HB6.out).c3)); have HO6 := hid (ownsRow_below HO0.out HB6.out); have HBw := hid (bb HB0.out HB6.out); clear hb6)
      | (obtain ⟨a9, c9, w9, hrun, ho9, hg9⟩ := hd_app (B := w.heap.size) (l := q) (W := w6) x kn ke kd (by rw [HLI.out]; exact HO6.out) HBw.out.size (by rw [HLI.out]; omega)
         rw [HLI.out] at hrun ho9
         refine u_step_app rfl (.tmp 12) (.tmp 19) 24 24 rfl (.slice a5 i c5) (.slice (some ⟨w6.heap.size, 0, none⟩) 1 1) (by simp [Act.eval, Act.put]) (by simp [Act.eval, Act.put]) hrun ?_
         have HO9 := hid ho9
         have HB9 := hid ((HBw.out.alloc HBw.out.size (.cells #[.string x, .int .i64 kn, .int .i64 ke, .int .i64 kd] 72)).grown hg9 (HBw.out.alloc HBw.out.size (.cells #[.string x, .int .i64 kn, .int .i64 ke, .int .i64 kd] 72)).size (fun k e => (HO6.out.lt k e).1))
         clear hrun ho9 hg9))
    all_goals
      go_wp2_with fail
      go_roundw
      case rel => exact ⟨i + 1, by go_num, by omega, by rw [HX.out]; exact HO9.out, HB9.out⟩
      case measure => simp [intOf]; omega

end Go.Proofs.YtgdfeicojgnoaaaGreatDoor
