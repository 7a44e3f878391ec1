/- Contract of slices.Delete of one row. -/
import Derived.Test.YtmbomjmenbfhmaaUIns
namespace Go.Proofs.Ytmbomjmenbfhmaa
open Go.RowKit
set_option linter.unusedVariables false
set_option linter.unusedSimpArgs false

theorem u_step_app {P : Program} {ops : Array Oper} {o : Oper} {a : Act} {w : World} {K : Act → World → Prop} {Q : Exit → Act → World → Prop} {E : Prop}
    (hg : o.guard = none) (d x : Operand) (dT sT : TypeId) (hop : o.op = Op.call { callee := Callee.builtin Builtin.append, args := #[d, x], argTypes := #[dT, sT] })
    (v u : Value) (hd : a.eval d = v) (hx : a.eval x = u) {v' : Value} {w' : World} (hr : (Builtin.append_ #[dT, sT] o.type #[v, u]).run P w = .ok v' w') (hK : K (a.put o.dst v') w') :
    if Region.wanted o (yielded ops a.tmps) = true then Oper.wp P o a w K Q else E := by
  have hw : Region.wanted o (yielded ops a.tmps) = true := by simp [Region.wanted, hg]
  rw [if_pos hw]
  unfold Oper.wp
  simp [execOp, hop, resolve, invoke, builtin, hd, hx, hr, Result.andThen]
  exact hK

theorem sl_cutR (b o L cap f t mx : Nat) (h : f ≤ t) (ht : t ≤ mx) (hm : mx ≤ cap) (W : World) : (Instr.slice 24 (.slice (some ⟨b, o, none⟩) L cap) (some (.int .i64 f)) (some (.int .i64 t)) (some (.int .i64 mx))).run Try.prog W = .ok (.slice (some (if mx = f then ⟨b, o, none⟩ else ⟨b, o + f * 2, none⟩)) (t - f) (mx - f)) W := by
  have h1 : (f : Int) ≤ t := by omega
  have h2 : (t : Int) ≤ mx := by omega
  have h3 : (mx : Int) ≤ cap := by omega
  have h4 : ¬ cap < mx := by omega
  go_simp
  by_cases e : mx = f <;> simp [e, Addr.add]

/-- Nothing, as a row. -/
def zRo : List Value := [.string ⟨#[]⟩, .int .i64 0]

/-- One row made nothing. -/
theorem u_clear_one (W : World) (ty : TypeId) (g o cp : Nat) (cur : Array Value) (T : TypeId) (hg : W.heap[g]? = some (.cells cur T (0, 0))) (hfit : o + 2 ≤ cur.size) :
    (Builtin.clear_ #[24] ty #[.slice (some ⟨g, o, none⟩) 1 cp]).run Try.prog W = .ok (.tuple #[]) (W.setRow g (cur.toList.take o ++ zRo ++ cur.toList.drop (o + 2)).toArray) := by
  have hst := run_storeCells_at Try.prog g o T zRo 0 cur W hg (by show o + 0 + 2 ≤ _; omega) (by intro v hv; simp [zRo] at hv; rcases hv with rfl | rfl <;> rfl)
  have e2 : zRo.length = 2 := rfl
  simp only [Nat.add_zero, e2] at hst
  have hz : ∀ W, (zeroValue 41).run Try.prog W = .ok (.agg #[.string ⟨#[]⟩, .int .i64 0]) W := fun W => by simp [go_sem]
  have hzc : (Builtin.zeroCells (Value.cells (.agg #[.string ⟨#[]⟩, .int .i64 0])) 1).toList = zRo := by first | rfl | (simp [Builtin.zeroCells, Value.cells, zRo]; rfl)
  simp [Builtin.clear_, run_underlying Try.underlying24, hz, hzc, hst]

theorem del_cells {A cs zs : List Value} {k n : Nat} (hA : A.take (n * 2) = cs) (hc : cs.length = n * 2) (hz : zs.length = 2) (hk : k < n) (hl : n * 2 ≤ A.length) :
    ((((A.take (k * 2) ++ cs.drop ((k + 1) * 2) ++ A.drop (k * 2 + (n - (k + 1)) * 2)).take ((n - 1) * 2) ++ zs ++ (A.take (k * 2) ++ cs.drop ((k + 1) * 2) ++ A.drop (k * 2 + (n - (k + 1)) * 2)).drop ((n - 1) * 2 + 2))).take ((n - 1) * 2) = cs.take (k * 2) ++ cs.drop ((k + 1) * 2))
    ∧ ((A.take (k * 2) ++ cs.drop ((k + 1) * 2) ++ A.drop (k * 2 + (n - (k + 1)) * 2)).take ((n - 1) * 2) ++ zs ++ (A.take (k * 2) ++ cs.drop ((k + 1) * 2) ++ A.drop (k * 2 + (n - (k + 1)) * 2)).drop ((n - 1) * 2 + 2)).length = A.length
    ∧ (A.take (k * 2) ++ cs.drop ((k + 1) * 2) ++ A.drop (k * 2 + (n - (k + 1)) * 2)).length = A.length := by
  have h1 : (A.take (k * 2)).length = k * 2 := by rw [List.length_take]; omega
  have h2 : (cs.drop ((k + 1) * 2)).length = (n - (k + 1)) * 2 := by rw [List.length_drop, hc]; omega
  have e0 : A.take (k * 2) = cs.take (k * 2) := by
    rw [← hA, List.take_take]
    congr 1
    omega
  have e1 : (A.take (k * 2) ++ cs.drop ((k + 1) * 2) ++ A.drop (k * 2 + (n - (k + 1)) * 2)).take ((n - 1) * 2) = cs.take (k * 2) ++ cs.drop ((k + 1) * 2) := by
    rw [← e0]
    exact List.take_left' (by rw [List.length_append, h1, h2]; omega)
  have h3 : (A.take (k * 2) ++ cs.drop ((k + 1) * 2) ++ A.drop (k * 2 + (n - (k + 1)) * 2)).length = A.length := by
    simp only [List.length_append, h1, h2, List.length_drop]
    omega
  have h4 : (cs.take (k * 2)).length = k * 2 := by rw [← e0]; exact h1
  refine ⟨?_, ?_, h3⟩
  · rw [e1, List.append_assoc]
    exact List.take_left' (by rw [List.length_append, h4, h2]; omega)
  · rw [e1]
    simp only [List.length_append, h4, h2, hz, List.length_drop, h3]
    omega

set_option maxRecDepth 8000 in
set_option maxHeartbeats 8000000 in
/-- A row taken out. -/
theorem cDelete (B c n k : Nat) (a : Option Addr) (l : List Ro) (w : World) (hO : w.ownsRow B 41 2 (.slice a n c) n (roC l)) (hl : l.length = n) (hn : n ≤ 1000) (hk : k < n) :
    Calls Try.prog 41 #[.slice a n c, .int .i64 (k : Int), .int .i64 ((k : Int) + 1)] w fun e w' => ∃ v', e = .returned v' ∧ w'.ownsRow B 41 2 v' (n - 1) (roC (l.take k ++ l.drop (k + 1))) ∧ Below B w w' := by
  obtain ⟨g, cur, rfl, hBg, hg, hnc, hc, hcs, ht, _⟩ := own_at hO (by omega)
  have hlen : (roC l).length = n * 2 := by rw [roC_len, hl]
  have hA : n * 2 ≤ cur.toList.length := by rw [Array.length_toList, hcs]; omega
  obtain ⟨F1, F2, F3⟩ := del_cells (k := k) (zs := zRo) ht hlen rfl hk hA
  have hlk : ((roC l).drop ((k + 1) * 2)).length = (n - (k + 1)) * 2 := by rw [List.length_drop, hlen]; omega
  obtain ⟨A1, hA1⟩ : ∃ A1 : List Value, cur.toList.take (k * 2) ++ (roC l).drop ((k + 1) * 2) ++ cur.toList.drop (k * 2 + (n - (k + 1)) * 2) = A1 := ⟨_, rfl⟩
  rw [hA1] at F1 F2 F3
  obtain ⟨A2, hA2⟩ : ∃ A2 : List Value, A1.take ((n - 1) * 2) ++ zRo ++ A1.drop ((n - 1) * 2 + 2) = A2 := ⟨_, rfl⟩
  rw [hA2] at F1 F2
  obtain ⟨i0, hi, hz0, hz1, hz2⟩ := info_parts infoRoW
  have hap : ∀ ty sc, (Builtin.append_ #[24, 24] ty #[.slice (some ⟨g, 0, none⟩) k c, .slice (some (if c = k + 1 then ⟨g, 0, none⟩ else ⟨g, (k + 1) * 2, none⟩)) (n - (k + 1)) sc]).run Try.prog w.drew = .ok (.slice (some ⟨g, 0, none⟩) (n - 1) c) (w.drew.setRow g A1.toArray) := fun ty sc => by
    have := run_append_room (P := Try.prog) w.drew 24 ty 41 i0 Try.underlying24 hi g k c cur hg (if c = k + 1 then ⟨g, 0, none⟩ else ⟨g, (k + 1) * 2, none⟩) (n - (k + 1)) sc ((roC l).drop ((k + 1) * 2)) (by rw [hz1]; exact hlk) (fun j u hj => by
      have hck : ¬ c = k + 1 := fun e => by
        have h0 : n - (k + 1) = 0 := by omega
        have h1 := (List.getElem?_eq_some_iff.1 hj).1
        rw [hlk, h0] at h1
        exact absurd h1 (Nat.not_lt_zero _)
      rw [if_neg hck]
      exact row_at (w := w.drew) hg ht (k + 1) j u hj) (fun v hv => roC_one l v (List.mem_of_mem_drop hv)) (by omega) (by rw [hz1, hlk, hcs]; omega)
    rw [hz1, hlk, hA1] at this
    rw [this]
    congr 2
    omega
  have hw1 : (w.drew.setRow g A1.toArray).heap[g]? = some (.cells A1.toArray 41 (0, 0)) := setRow_heap _ _ _ _ _ _ hg
  have hcl : ∀ ty sc, (Builtin.clear_ #[24] ty #[.slice (some ⟨g, (n - 1) * 2, none⟩) 1 sc]).run Try.prog (w.drew.setRow g A1.toArray) = .ok (.tuple #[]) ((w.drew.setRow g A1.toArray).setRow g A2.toArray) := fun ty sc => by
    have := u_clear_one (w.drew.setRow g A1.toArray) ty g ((n - 1) * 2) sc A1.toArray 41 hw1 (by rw [List.size_toArray, F3, Array.length_toList, hcs]; omega)
    rw [hA2] at this
    exact this
  have hw2 : ((w.drew.setRow g A1.toArray).setRow g A2.toArray).heap[g]? = some (.cells A2.toArray 41 (0, 0)) := setRow_heap _ _ _ _ _ _ hw1
  have HOwn := hid (mk_own (n := n - 1) (c := c) hBg hw2 (by omega) hc (by rw [List.size_toArray, F2, Array.length_toList, hcs]) (by show A2.take ((n - 1) * 2) = _; rw [F1, roC_take, roC_drop, ← roC_app]) (show (roC (l.take k ++ l.drop (k + 1))).length = (n - 1) * 2 by rw [roC_len, List.length_append, List.length_take, List.length_drop, hl]; omega))
  have HBW := hid (show Below B w ((w.drew.setRow g A1.toArray).setRow g A2.toArray) from below_setRow (below_setRow (Below.refl B w).drew hBg _) hBg _)
  have hcut := sl_cutR g 0 n c k (k + 1) n (by omega) hk hnc
  have hup := sl_uptoC g 0 n c k (by omega)
  have hfr := sl_fromR g 0 n c (k + 1) hk hnc
  have hcl2 := fun W => (show (Instr.slice 24 (.slice (some ⟨g, 0, none⟩) (n - 1) c) (some (.int .i64 ((n - 1 : Nat) : Int))) (some (.int .i64 (n : Int))) none).run Try.prog W = .ok (.slice (some (if c = n - 1 then ⟨g, 0, none⟩ else ⟨g, (n - 1) * 2, none⟩)) 1 (c - (n - 1))) W by
    have h1 : ((n - 1 : Nat) : Int) ≤ n := by omega
    have h2 : (n : Int) ≤ c := by omega
    have h3 : ¬ c < n := by omega
    have h5 : n - (n - 1) = 1 := by omega
    obtain ⟨p, hp⟩ : ∃ p, n - 1 = p := ⟨_, rfl⟩
    rw [hp] at h1 h5 ⊢
    go_simp
    by_cases e : c = p <;> simp [e, Addr.add, h5] <;> omega)
  have hnk1 : ¬ c = n - 1 := by omega
  simp only [hnk1, if_false, Nat.zero_add] at hcut hfr hcl2
  generalize (if c = k + 1 then (⟨g, 0, none⟩ : Addr) else ⟨g, (k + 1) * 2, none⟩) = AF at *
  generalize (if n = k then (⟨g, 0, none⟩ : Addr) else ⟨g, k * 2, none⟩) = AG at *
  obtain ⟨W1, hW1⟩ : ∃ W1, w.drew.setRow g A1.toArray = W1 := ⟨_, rfl⟩
  rw [hW1] at hap hcl HOwn HBW
  obtain ⟨W2, hW2⟩ : ∃ W2, W1.setRow g A2.toArray = W2 := ⟨_, rfl⟩
  rw [hW2] at hcl HOwn HBW
  have HAP := hid hap
  have HCL := hid hcl
  clear hap hcl hW1 hW2 hw2 hw1 hi hz0 hz1 hz2 hA1 hA2 hlk F1 F2 F3 hA hlen hBg hg hc hcs ht hO hl
  obtain ⟨k1, hk1⟩ : ∃ k1, k + 1 = k1 := ⟨_, rfl⟩
  obtain ⟨n1, hn1⟩ : ∃ n1, n - 1 = n1 := ⟨_, rfl⟩
  have e1 : (k : Int) + 1 = (k1 : Int) := by omega
  rw [hk1] at HAP HOwn hcut hfr ⊢
  rw [hn1] at HAP HCL HOwn hcl2 ⊢
  rw [e1]
  have e5 : ¬ (k : Int) = (k1 : Int) := by omega
  have e6 : ((k : Int) == (k1 : Int)) = false := by simpa using e5
  clear e1 hk1 hn1
  go_enter Try.func41, Try.ntmps41
  go_wp2_with fail
  go_region_law (refine u_step_app rfl (.tmp 22) (.tmp 25) 24 24 rfl (.slice (some ⟨g, 0, none⟩) k c) (.slice (some AF) (n - k1) (c - k1)) (by simp [Act.eval, Act.put]) (by simp [Act.eval, Act.put]) (HAP.out _ _) ?_)
  go_wp2_with fail
  refine upon_run (HCL.out _ _) ?_
  go_wp2_with fail
  go_ret
  exact ⟨_, rfl, HOwn.out, HBW.out⟩

end Go.Proofs.Ytmbomjmenbfhmaa
