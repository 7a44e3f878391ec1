/- Contract of stampsOf: the stamps of a list's texts in a row, and the map of the first. -/
import Derived.Test.YtidkbpcceoocaaaDoorHStr
import Derived.Test.YtidkbpcceoocaaaDoorHMap
import Derived.Maps.AppendAt
import Derived.OneCell
import Derived.Lib.BufferWrite
namespace Go.Proofs.YtidkbpcceoocaaaDoor
open Go.RowKit
set_option linter.unusedVariables false
set_option linter.unusedSimpArgs false

/-- Stamps as cells. -/
def stC (ss l : List ByteArray) : List Value := l.flatMap fun t => [.int .i64 ((hsB t : Nat) : Int), .int .i64 ((fidx ss t : Nat) : Int)]

theorem stC_len (ss l : List ByteArray) : (stC ss l).length = l.length * 2 := by
  unfold stC
  induction l with
  | nil => rfl
  | cons t l ih => rw [List.flatMap_cons, List.length_append, ih, List.length_cons]; simp; omega

theorem stC_snoc (ss l : List ByteArray) (t : ByteArray) : stC ss (l ++ [t]) = stC ss l ++ [.int .i64 ((hsB t : Nat) : Int), .int .i64 ((fidx ss t : Nat) : Int)] := by
  unfold stC
  rw [List.flatMap_append]
  simp

theorem info56 : (Tryd.prog.info? 56).map (fun i => (i.zero, i.size, i.bytes)) = some (some (.agg #[.int .i64 0, .int .i64 0]), 2, 16) := by kernel_rfl

theorem makeSt (w : World) (n : Nat) (hn : n ≤ 1048576) : ∃ v w', (Instr.makeSlice 53 (.int .i64 0) (.int .i64 (n : Int))).run Tryd.prog w = .ok v w' ∧ v = .slice (some ⟨w.heap.size, 0, none⟩) 0 n ∧ w'.ownsRow w.heap.size 56 2 (.slice (some ⟨w.heap.size, 0, none⟩) 0 n) 0 [] ∧ w.grownBy w' none := by
  obtain ⟨i0, hi, hz0, hz1, hz2⟩ := info_parts info56
  obtain ⟨w', hrun, r1, r2⟩ := run_make_own (P := Tryd.prog) w w.heap.size 53 56 i0 _ 2 Tryd.underlying53 hi hz0 hz1 .i64 .i64 n (by rw [hz2]; omega) (by unfold maxLen; omega) (Nat.le_refl _)
  exact ⟨_, w', hrun, rfl, r1, r2⟩

theorem heap_at2 (w : World) (o p : Obj) : ((w.alloc o).alloc p).heap[w.heap.size + 1]? = some p := by
  have := heap_alloc_new (w.alloc o) p
  rw [World.size_alloc] at this
  exact this

theorem appSt (w : World) (base : Nat) (v : Value) (n : Nat) (xs : List Value) (ty : TypeId) (hown : w.ownsRow base 56 2 v n xs) (B : Nat) (x y : Int) (hB : w.heap[B]? = some (.cells #[.int .i64 x, .int .i64 y] 56 (0, 0))) (hn : n ≤ 1048576) (hb : base ≤ w.heap.size) :
    ∃ v' w', (Builtin.append_ #[53, 53] ty #[v, .slice (some ⟨B, 0, none⟩) 1 1]).run Tryd.prog w = .ok v' w' ∧ w'.ownsRow base 56 2 v' (n + 1) (xs ++ [.int .i64 x, .int .i64 y]) ∧ w.grownBy w' v.ownBlock := by
  obtain ⟨i0, hi, hz0, hz1, hz2⟩ := info_parts info56
  obtain ⟨v', w', hr, h2, h3, h4, h5⟩ := run_append_own_at (P := Tryd.prog) w base 53 ty 56 i0 _ 2 16 Tryd.underlying53 hi hz0 hz1 hz2 rfl (by decide) v n xs hown ⟨B, 0, none⟩ 1 1 [.int .i64 x, .int .i64 y] rfl (fun j u hj => by
    have hc : ∀ k, w.cell? ⟨B, k, none⟩ = #[Value.int .i64 x, .int .i64 y][k]? := fun k => Lib.cell_of_heap hB k
    match j, hj with
    | 0, hj => simp at hj; subst hj; exact hc 0
    | 1, hj => simp at hj; subst hj; exact hc 1) (by simp [Value.oneCell']) (by unfold maxLen; omega) (by omega) hb
  exact ⟨v', w', hr, h2, h3⟩

theorem wpL_app (w : World) {ops : Array Oper} {rest : List Oper} {o : Oper} {a : Act} {Q : Exit → Act → World → Prop} (hgd : o.guard = none) (s x : Operand)
    (ho : o.op = .call { callee := .builtin .append, args := #[s, x], argTypes := #[53, 53] }) (base : Nat) (v : Value) (n : Nat) (xs : List Value) (hs : a.eval s = v) (hown : w.ownsRow base 56 2 v n xs)
    (B : Nat) (p q : Int) (hx : a.eval x = .slice (some ⟨B, 0, none⟩) 1 1) (hB : w.heap[B]? = some (.cells #[.int .i64 p, .int .i64 q] 56 (0, 0))) (hn : n ≤ 1048576) (hb : base ≤ w.heap.size)
    (h : ∀ v' w', w'.ownsRow base 56 2 v' (n + 1) (xs ++ [.int .i64 p, .int .i64 q]) → w.grownBy w' v.ownBlock → wpList Tryd.prog ops Q rest (a.put o.dst v') w') : wpList Tryd.prog ops Q (o :: rest) a w := by
  refine wpList_plain hgd fun K hK => ?_
  obtain ⟨v', w', hr, h2, h3⟩ := appSt w base v n xs o.type hown B p q hB hn hb
  unfold Oper.wp execOp
  simp only [ho, resolve, invoke, builtin, Sem.run_bind, Sem.run_pure, Result.andThen_ok, List.map_toArray, List.map_cons, List.map_nil, hs, hx, hr]
  exact hK _ _ (h v' w' h2 h3)

theorem hid {p : Prop} (h : p) : Hid p := h

theorem grown_of_below {w w' : World} (h : Below w.heap.size w w') : w.grownBy w' none := ⟨h.os, h.tape, h.output, h.size, fun i hi _ => h.block i hi⟩

set_option maxHeartbeats 2000000 in
set_option maxRecDepth 8000 in
theorem cStamps (a : Option Addr) (cap : Nat) (ss : List ByteArray) (b : Nat) (w : World) (hS : StrAt w a ss) (hz : ∀ s ∈ ss, s.size ≤ 1048576) (hn : ss.length ≤ 1048576) (hM : OwnsM w b 0 (fun _ => none)) (hab : 0 < ss.length → ∀ x, a = some x → x.block < b) :
    Calls Tryd.prog 35 #[.slice a ss.length cap, .map (some b)] w fun e w' => ∃ v, e = .returned v ∧ w'.ownsRow w.heap.size 56 2 v ss.length (stC ss ss) ∧ OwnsM w' b ss.length (fM ss ss.length) ∧ Below b w w' := by
  have HS : Hid (StrAt w a ss) := hS
  have HZ : Hid (∀ s ∈ ss, s.size ≤ 1048576) := hz
  have HAB : Hid (0 < ss.length → ∀ x, a = some x → x.block < b) := hab
  have HM : Hid (OwnsM w b 0 (fun _ => none)) := hM
  have hbw : b < w.heap.size := by
    obtain ⟨es, clock, h⟩ := hM.map
    exact lt_of_heap h
  clear hS hz hab hM
  obtain ⟨n, hnn⟩ : ∃ n, ss.length = n := ⟨_, rfl⟩
  have HN : Hid (ss.length = n) := hnn
  rw [hnn] at hn ⊢
  clear hnn
  go_enter Tryd.func35, Tryd.ntmps35
  go_wp2_with fail
  refine upon_ex (makeSt w n (by omega)) ?_
  rintro v w1 ⟨rfl, ho1, hg1⟩
  have HM1 : Hid (OwnsM w1 b 0 (fun _ => none)) := HM.out.kept hg1 (by simp)
  have HB1 : Hid (Below b w w1) := (Below.refl b w).grown hg1 (by omega) (by simp)
  have HO1 : Hid (w1.ownsRow w.heap.size 56 2 (.slice (some ⟨w.heap.size, 0, none⟩) 0 n) 0 []) := ho1
  have HL1 : Hid (w.heap.size ≤ w1.heap.size) := hg1.size
  clear ho1 hg1
  go_wp2_with fail
  go_loopw [5, 15] (fun v k wr => ∃ i : Nat, k = .int .i64 (i : Int) ∧ i ≤ n ∧ wr.ownsRow w.heap.size 56 2 v i (stC ss (ss.take i)) ∧ OwnsM wr b i (fM ss i) ∧ Below b w wr ∧ w.heap.size ≤ wr.heap.size) (fun _ k _ => n - (intOf k).toNat)
  case atStart => exact ⟨0, rfl, Nat.zero_le _, HO1.out, by rw [fM_zero]; exact HM1.out, HB1.out, HL1.out⟩
  case round =>
    clear HO1 HM1 HB1 HL1 HM
    obtain ⟨i, rfl, hi, hO, hMr, hB, hL⟩ := hrel
    obtain ⟨v, hv⟩ : ∃ v, u5 = v := ⟨_, rfl⟩
    have HO : Hid (wr.ownsRow w.heap.size 56 2 u5 i (stC ss (ss.take i))) := hO
    have HMr : Hid (OwnsM wr b i (fM ss i)) := hMr
    have HB : Hid (Below b w wr) := hB
    clear hO hMr hv
    by_cases hlt : i < n
    · have his : i < ss.length := by rw [HN.out]; exact hlt
      have HT : Hid (ss.take (i + 1) = ss.take i ++ [ss[i]]) := take_next his
      obtain ⟨lb, lo, rfl, _, c0⟩ := HS.out i his
      have hlb : lb < b := HAB.out (by omega) _ rfl
      have c1 : wr.cell? ⟨lb, lo + i, none⟩ = some (.string ss[i]) := (hB.cell (p := ⟨lb, lo + i, none⟩) hlb).trans c0
      have z1 := HZ.out _ (List.getElem_mem his)
      clear c0 hB
      by_cases hmem : ss[i] ∈ ss.take i
      · have hf : fM ss i ss[i] = some (stp ss ss[i]) := by unfold fM; rw [if_pos hmem]
        have HF : Hid (fM ss (i + 1) = fM ss i) := fM_in his hmem
        obtain ⟨x, hx⟩ : ∃ x, ss[i] = x := ⟨_, rfl⟩
        have HX : Hid (ss[i] = x) := hx
        rw [hx] at c1 z1 hf HT
        clear hx hmem
        go_wp2_with fail
        refine upon_run (HMr.out.look (s := x) (by unfold maxLen; omega)) ?_
        rw [hf]
        simp only [Option.getD_some, Option.isSome_some, stp]
        obtain ⟨H, hH⟩ : ∃ H : Nat, hsB x = H := ⟨_, rfl⟩
        obtain ⟨F, hF⟩ : ∃ F : Nat, fidx ss x = F := ⟨_, rfl⟩
        have HH : Hid (hsB x = H ∧ fidx ss x = F) := ⟨hH, hF⟩
        rw [hH, hF]
        clear hH hF hf
        go_wp2_with (at_builtin; refine wpL_app _ rfl _ _ rfl w.heap.size u5 i _ rfl ((HO.out.alloc _).alloc _) _ _ _ rfl (heap_at2 _ _ _) (by omega) (by simp; omega) ?_; intro v' w' ho' hg')
        have hne : ∀ k, u5.ownBlock = some k → w.heap.size ≤ k := fun k e => (HO.out.lt k e).1
        go_roundw
        case rel =>
          refine ⟨i + 1, by go_num, by omega, ?_, ?_, ?_, ?_⟩
          · rw [HT.out, stC_snoc, HH.out.1, HH.out.2]; exact ho'
          · rw [HF.out]
            exact (((HMr.out.alloc _).alloc _).kept hg' (fun e => by have := hne b e.symm; omega)).mono (Nat.le_succ _)
          · exact ((HB.out.alloc (by omega) _).alloc (by simp; omega) _).grown hg' (by simp; omega) (fun k e => by have := hne k e; omega)
          · exact Nat.le_trans (by simp; omega) hg'.size
        case measure => simp [intOf]; omega
      · have hf : fM ss i ss[i] = none := by unfold fM; rw [if_neg hmem]
        have HF := hid (fM_new his hmem)
        have hfi : fidx ss ss[i] = i := fidx_at his hmem
        obtain ⟨x, hx⟩ : ∃ x, ss[i] = x := ⟨_, rfl⟩
        have HX : Hid (ss[i] = x) := hx
        rw [hx] at c1 z1 hf HT HF hfi
        have HFI : Hid (fidx ss x = i) := hfi
        clear hx hmem hfi
        go_wp2_with fail
        refine upon_run (HMr.out.look (s := x) (by unfold maxLen; omega)) ?_
        rw [hf]
        simp only [Option.getD_none, Option.isSome_none]
        clear hf
        go_wp2_with fail
        refine (cHashI x _ z1).mono ?_
        rintro e w2 ⟨rfl, hb2⟩
        have hh2 : w2.heap[wr.heap.size]? = some (.cells #[.int .i64 0, .int .i64 0] 56 (0, 0)) := (hb2.block _ (by simp)).trans (heap_alloc_new _ _)
        have hg2 := grown_of_below hb2
        have HM2 : Hid (OwnsM w2 b i (fM ss i)) := (HMr.out.alloc _).kept hg2 (by simp)
        have HO2 : Hid (w2.ownsRow w.heap.size 56 2 u5 i (stC ss (ss.take i))) := (HO.out.alloc _).kept hg2 (Decidable.em _)
        have HB2 : Hid (Below b w w2) := (HB.out.alloc (by omega) _).grown hg2 (by simp; omega) (by simp)
        have hL2 : w.heap.size ≤ w2.heap.size := Nat.le_trans (by simp; omega) hb2.size
        have hsz2 : wr.heap.size < w2.heap.size := lt_of_heap hh2
        obtain ⟨B, hBe⟩ : ∃ B, wr.heap.size = B := ⟨_, rfl⟩
        have hBb : w.heap.size ≤ B := by rw [← hBe]; exact hL
        have HNE : Hid (u5.ownBlock ≠ some B) := fun e => by have := (HO.out.lt B e).2; omega
        rw [hBe] at hh2 hsz2 ⊢
        clear hBe hb2 hg2 HMr HO HB hL c1
        have k0 : w2.cell? ⟨B, 0, none⟩ = some (.int .i64 0) := by rw [Lib.cell_of_heap hh2]; rfl
        have k1 : w2.cell? ⟨B, 1, none⟩ = some (.int .i64 0) := by rw [Lib.cell_of_heap hh2]; rfl
        have f0 : w2.frozen? ⟨B, 0, none⟩ = false := Lib.frozen_of_heap hh2 0
        have f1 : w2.frozen? ⟨B, 1, none⟩ = false := Lib.frozen_of_heap hh2 1
        obtain ⟨H, hH⟩ : ∃ H : Nat, hsL x.data.toList = H := ⟨_, rfl⟩
        have HH : Hid (hsB x = H) := hH
        rw [hH]
        clear hH
        have hM3 := (HM2.out.setCell (a := ⟨B, 0, none⟩) (by show b ≠ B; omega) (.int .i64 (H : Int))).setCell (a := ⟨B, 1, none⟩) (by show b ≠ B; omega) (.int .i64 (i : Int))
        have hh3 : ((w2.setCell ⟨B, 0, none⟩ (.int .i64 (H : Int))).setCell ⟨B, 1, none⟩ (.int .i64 (i : Int))).heap[B]? = some (.cells #[.int .i64 (H : Int), .int .i64 (i : Int)] 56 (0, 0)) := by
          simp [World.setCell, Array.getElem?_modify, hh2]
        have hO3 := (HO2.out.kept (Lib.grownBy_setCell w2 B 0 (.int .i64 (H : Int))) (.inr HNE.out)).kept (Lib.grownBy_setCell _ B 1 (.int .i64 (i : Int))) (.inr HNE.out)
        have hB3 := (HB2.out.setCell (p := ⟨B, 0, none⟩) (by show b ≤ B; omega) (.int .i64 (H : Int))).setCell (p := ⟨B, 1, none⟩) (by show b ≤ B; omega) (.int .i64 (i : Int))
        have hS3 : ((w2.setCell ⟨B, 0, none⟩ (.int .i64 (H : Int))).setCell ⟨B, 1, none⟩ (.int .i64 (i : Int))).heap.size = w2.heap.size := by simp
        have HM3 := hid (hM3)
        have HH3 := hid (hh3)
        have HO3 := hid (hO3)
        have HB3 := hid (hB3)
        have HS3 := hid (hS3)
        clear hM3 hh3 hO3 hB3 hS3 HM2 HO2 HB2 hh2
        go_wp2_with fail
        refine upon_ex (HM3.out.store (by unfold maxLen; omega) (s := x) (by unfold maxLen; omega) (H : Int) (i : Int)) ?_
        rintro v3 w3 ⟨hM4, hg3⟩
        have hne : ∀ k, u5.ownBlock = some k → w.heap.size ≤ k := fun k e => (HO3.out.lt k e).1
        have hh4 := (hg3.block B (by rw [HS3.out]; exact hsz2) (by simp; omega)).trans HH3.out
        have HO4 := hid (HO3.out.kept hg3 (.inr (fun e => by have := hne b e; omega)))
        have HB4 := hid (HB3.out.grown hg3 (by rw [HS3.out]; omega) (fun k e => by cases e; exact Nat.le_refl _))
        have HM4 := hid (hM4)
        have hL4 : w.heap.size ≤ w3.heap.size := Nat.le_trans (by rw [HS3.out]; exact hL2) hg3.size
        have HNN := hid (hne)
        clear hM4 hg3 HM3 HH3 HO3 HB3 HS3 k0 k1 f0 f1 hne
        have k0 : w3.cell? ⟨B, 0, none⟩ = some (.int .i64 (H : Int)) := by rw [Lib.cell_of_heap hh4]; rfl
        have k1 : w3.cell? ⟨B, 1, none⟩ = some (.int .i64 (i : Int)) := by rw [Lib.cell_of_heap hh4]; rfl
        clear hh4
        go_wp2_with (at_builtin; refine wpL_app _ rfl _ _ rfl w.heap.size u5 i _ rfl (HO4.out.alloc _) _ _ _ rfl (heap_alloc_new _ _) (by omega) (by simp; omega) ?_; intro v' w' ho' hg')
        go_roundw
        case rel =>
          refine ⟨i + 1, by go_num, by omega, ?_, ?_, ?_, ?_⟩
          · rw [HT.out, stC_snoc, HH.out, HFI.out]; exact ho'
          · rw [HF.out, HH.out]
            exact (HM4.out.alloc _).kept hg' (fun e => by have := HNN.out b e.symm; omega)
          · exact (HB4.out.alloc (by omega) _).grown hg' (by simp; omega) (fun k e => by have := HNN.out k e; omega)
          · exact Nat.le_trans (by simp; omega) hg'.size
        case measure => simp [intOf]; omega
    · have hie : i = n := by omega
      subst hie
      have e : ss.take i = ss := List.take_of_length_le (by rw [HN.out]; exact Nat.le_refl _)
      have hO := HO.out
      rw [e] at hO
      have HO1 := hid (hO)
      clear hO HO e hB
      go_wp2_with fail
      go_ret
      exact ⟨_, rfl, HO1.out, HMr.out, HB.out⟩

end Go.Proofs.YtidkbpcceoocaaaDoor
