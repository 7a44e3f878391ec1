/-  -/
import Derived.Test.YtoioiddjbanahaaGreatDoorM41
import Derived.Test.YtoioiddjbanahaaGreatDoorM22
import Derived.Test.YtoioiddjbanahaaGreatDoorRows
import Derived.Test.YtoioiddjbanahaaGreatDoorM1
import Derived.Test.YtoioiddjbanahaaGreatDoorM21
import Derived.BigQuiet
import Derived.Deep.QuietTactic
import Derived.WalkKit
import Derived.Maps.OwnSet
import Derived.StringKeys
import Derived.Maps.AppendAt
import Derived.OneCell
import Derived.Lib.BufferWrite
set_option linter.unusedVariables false
set_option linter.unusedSimpArgs false
namespace Go.Proofs.YtoioiddjbanahaaGreatDoor

open Go.RowKit

def StrAt (w : World) (a : Option Addr) (ss : List ByteArray) : Prop :=
 ∀ j (h : j < ss.length), ∃ b o, a = some ⟨b, o, none⟩ /\ b < w.heap.size /\ w.cell? ⟨b, o + j, none⟩ = some (.string ss[j])

theorem StrAt.below {w w' : World} {a : Option Addr} {ss : List ByteArray} (h : StrAt w a ss) (hb : Below w.heap.size w w') : StrAt w' a ss := by
 intro j hj
 obtain ⟨b, o, ha, hlt, hc⟩ := h j hj
 exact ⟨b, o, ha, Nat.lt_of_lt_of_le hlt hb.size, (hb.cell (p := ⟨b, o + j, none⟩) hlt).trans hc⟩

end Go.Proofs.YtoioiddjbanahaaGreatDoor

namespace Go.Proofs.YtoioiddjbanahaaGreatDoor

open Go.RowKit Go.Maps Go.MapKept Go.ChangeMaps Go.WideMaps

def sd (x y : Int) : DataW Unit := .agg [.lit (.int .i64 x), .lit (.int .i64 y)]

def stampR (v : Value) : Option (DataW Unit × List MemPlace) := match v with
 | .agg cs => match cs.toList with
  | [.int .i64 x, .int .i64 y] => some (sd x y, [])
  | _ => none
 | _ => none

theorem stampR_mk (x y : Int) : stampR (.agg #[.int .i64 x, .int .i64 y]) = some (sd x y, []) := rfl

theorem stampR_inv {v : Value} {x y : Int} {ps : List MemPlace} (h : stampR v = some (sd x y, ps)) : v = .agg #[.int .i64 x, .int .i64 y] := by
 unfold stampR at h
 split at h
 ·rename_i cs
  split at h
  ·rename_i x' y' he
   simp only [sd, Option.some.injEq, Prod.mk.injEq, DataW.agg.injEq, List.cons.injEq, DataW.lit.injEq, Lit.int.injEq, true_and, and_true] at h
   obtain ⟨⟨rfl, rfl⟩, _⟩ := h
   congr 1
   apply Array.toList_inj.1
   exact he
  ·cases h
 ·cases h

theorem keyed : Keyed Tryz.prog 9 := string_keyed Tryz.underlying9

def Says (D : DataW Unit) (o : Option (Int × Int)) (s : ByteArray) : Prop := match o with
 | none => Maps.has D (.string s.data.toList) = false
 | some p => Maps.has D (.string s.data.toList) = true /\ ∀ z, D.atKey (.string s.data.toList) z = sd p.1 p.2

def OwnsM (w : World) (b n : Nat) (f : ByteArray -> Option (Int × Int)) : Prop :=
 ∃ D, w.ownsMap Tryz.prog 9 stampR b n D /\ ∀ s : ByteArray, Says D (f s) s

theorem OwnsM.made (w : World) : OwnsM (w.alloc (.map #[] 0)) w.heap.size 0 (fun _ => none) :=
 ⟨_, World.ownsMap_made w _ _ _, fun s => rfl⟩

theorem OwnsM.kept {w w' : World} {b n : Nat} {f : ByteArray -> Option (Int × Int)} {row : Option Nat} (h : OwnsM w b n f) (hg : w.grownBy w' row) (hne : some b ≠ row) : OwnsM w' b n f := by
 obtain ⟨D, h1, h2⟩ := h
 exact ⟨D, h1.kept hg hne, h2⟩

theorem OwnsM.setCell {w : World} {b n : Nat} {f : ByteArray -> Option (Int × Int)} (h : OwnsM w b n f) {a : Addr} (ha : b ≠ a.block) (u : Value) : OwnsM (w.setCell a u) b n f := by
 obtain ⟨D, h1, h2⟩ := h
 exact ⟨D, h1.setCell ha u, h2⟩

theorem OwnsM.alloc {w : World} {b n : Nat} {f : ByteArray -> Option (Int × Int)} (h : OwnsM w b n f) (o : Obj) : OwnsM (w.alloc o) b n f := by
 obtain ⟨D, h1, h2⟩ := h
 exact ⟨D, h1.alloc o, h2⟩

theorem OwnsM.map {w : World} {b n : Nat} {f : ByteArray -> Option (Int × Int)} (h : OwnsM w b n f) : ∃ es clock, w.heap[b]? = some (.map es clock) := by
 obtain ⟨D, ⟨es, clock, hb, _⟩, _⟩ := h
 exact ⟨es, clock, hb⟩

theorem OwnsM.mono {w : World} {b n m : Nat} {f : ByteArray -> Option (Int × Int)} (h : OwnsM w b n f) (hm : n <= m) : OwnsM w b m f := by
 obtain ⟨D, h1, h2⟩ := h
 exact ⟨D, h1.mono hm, h2⟩

theorem zeroStamp (w : World) : (zeroValue 77).run Tryz.prog w = .ok (.agg #[.int .i64 0, .int .i64 0]) w := by kernel_rfl

theorem OwnsM.look {w : World} {b n : Nat} {f : ByteArray -> Option (Int × Int)} (h : OwnsM w b n f) {s : ByteArray} (hs : s.size <= maxLen) :
  (Instr.lookup 73 (.map (some b)) (.string s) true).run Tryz.prog w = .ok (.tuple #[.agg #[.int .i64 ((f s).getD (0, 0)).1, .int .i64 ((f s).getD (0, 0)).2], .bool (f s).isSome]) w := by
 obtain ⟨D, h1, h2⟩ := h
 have h3 := h2 s
 obtain ⟨v, ps, hrun, hv⟩ := h1.look_ok keyed Tryz.underlying73 (zeroStamp w) (stampR_mk 0 0) (keyOf_string_mk Tryz.underlying9 hs)
 rw [hrun]
 cases hf : f s with
 | none =>
  rw [hf] at h3
  have h4 : Maps.has D (.string s.data.toList) = false := h3
  rw [Maps.atKey_of_not_has h4] at hv
  rw [stampR_inv hv, h4]
  rfl
 | some p =>
  rw [hf] at h3
  have h4 : Maps.has D (.string s.data.toList) = true /\ ∀ z, D.atKey (.string s.data.toList) z = sd p.1 p.2 := h3
  rw [h4.2] at hv
  rw [stampR_inv hv, h4.1]
  rfl

theorem lit_ne {s t : ByteArray} (h : t ≠ s) : (Lit.string t.data.toList) ≠ .string s.data.toList := by
 intro e
 apply h
 apply ByteArray.ext
 apply Array.toList_inj.1
 exact Lit.string.inj e

theorem OwnsM.store {w : World} {b n : Nat} {f : ByteArray -> Option (Int × Int)} (h : OwnsM w b n f) (hn : n < maxLen) {s : ByteArray} (hs : s.size <= maxLen) (x y : Int) :
  ∃ v w', (Instr.mapUpdate 73 (.map (some b)) (.string s) (.agg #[.int .i64 x, .int .i64 y])).run Tryz.prog w = .ok v w' /\ OwnsM w' b (n + 1) (fun t => if t = s then some (x, y) else f t) /\ w.grownBy w' (some b) := by
 obtain ⟨D, h1, h2⟩ := h
 obtain ⟨w', hrun, ho, hg⟩ := h1.update keyed Tryz.underlying73 hn (keyOf_string_mk Tryz.underlying9 hs) (stampR_mk x y)
 refine ⟨(), w', hrun, ⟨_, ho, fun t => ?_⟩, hg⟩
 by_cases ht : t = s
 ·subst ht
  simp only [if_pos]
  exact ⟨Maps.has_put_same h1.isMap (by trivial) _, fun z => Maps.atKey_put_same h1.isMap (by trivial) _ z⟩
 ·simp only [if_neg ht]
  have h3 := h2 t
  unfold Says at h3 ⊢
  cases hf : f t with
  | none =>
   rw [hf] at h3
   simp only at h3 ⊢
   rw [Maps.has_put_other (lit_ne ht)]
   exact h3
  | some p =>
   rw [hf] at h3
   simp only at h3 ⊢
   rw [Maps.has_put_other (lit_ne ht)]
   exact ⟨h3.1, fun z => by rw [Maps.atKey_put_other (lit_ne ht)]; exact h3.2 z⟩

theorem OwnsM.clear {w : World} {b n : Nat} {f : ByteArray -> Option (Int × Int)} (h : OwnsM w b n f) (ty : TypeId) :
  ∃ v w', (Builtin.clear_ #[73] ty #[.map (some b)]).run Tryz.prog w = .ok v w' /\ v = .tuple #[] /\ OwnsM w' b 0 (fun _ => none) /\ w.grownBy w' (some b) := by
 obtain ⟨D, ⟨es, clock, hb, F, hs, hD⟩, h2⟩ := h
 refine ⟨_, setBlock w b (.map #[] clock), ?_, rfl, ⟨.map [], ⟨#[], clock, heap_setBlock_same hb _, ⟨by simp, stamped_empty clock, by simp⟩, Nat.le_refl _, rfl⟩, fun s => rfl⟩, ⟨rfl, rfl, rfl, by simp [setBlock], fun i _ hi => heap_setBlock_other hb _ (fun e => hi (by rw [e]))⟩⟩
 simp [Builtin.clear_, run_underlying Tryz.underlying73, MapKept.run_getObj_map hb, MapKept.run_setObj_map _ hb, Result.andThen]
 rfl

section

variable {P : Program} {α : Type} {X : Sem α} {w : World} {o : Oper} {a : Act} {K : Act -> World -> Prop} {Q : Exit -> Act -> World -> Prop} {g : α -> World -> Result Next}

theorem hm_upon_run {v : α} {w' : World} (hrun : X.run P w = .ok v w') (h : o.upon P a K Q (g v w')) : o.upon P a K Q ((X.run P w).andThen g) := by
 rw [hrun]
 exact h

theorem hm_upon_ex {R : α -> World -> Prop} (hrun : ∃ v w', X.run P w = .ok v w' /\ R v w') (h : ∀ v w', R v w' -> o.upon P a K Q (g v w')) : o.upon P a K Q ((X.run P w).andThen g) := by
 obtain ⟨v, w', e, r⟩ := hrun
 rw [e]
 exact h v w' r

end

theorem run_makeMapN {P : Program} (t k e : TypeId) (ht : P.underlying t = some (.map k e)) (q : IntKind) (n : Int) (w : World) : (Instr.makeMap t (some (.int q n))).run P w = .ok (.map (some w.heap.size)) (w.alloc (.map #[] 0)) := by
 simp [Instr.makeMap, run_underlying ht, asInt, Result.andThen]
 rfl

end Go.Proofs.YtoioiddjbanahaaGreatDoor

namespace Go.Proofs.YtoioiddjbanahaaGreatDoor

open Go.RowKit

def stC (ss l : List ByteArray) : List Value := l.flatMap fun t => [.int .i64 ((hsB t : Nat) : Int), .int .i64 ((fidx ss t : Nat) : Int)]

theorem stC_snoc (ss l : List ByteArray) (t : ByteArray) : stC ss (l ++ [t]) = stC ss l ++ [.int .i64 ((hsB t : Nat) : Int), .int .i64 ((fidx ss t : Nat) : Int)] := by
 unfold stC
 rw [List.flatMap_append]
 simp

theorem info56 : (Tryz.prog.info? 77).map (fun i => (i.zero, i.size, i.bytes)) = some (some (.agg #[.int .i64 0, .int .i64 0]), 2, 16) := by kernel_rfl

theorem makeSt (w : World) (n : Nat) (hn : n <= 1048576) : ∃ v w', (Instr.makeSlice 74 (.int .i64 0) (.int .i64 (n : Int))).run Tryz.prog w = .ok v w' /\ v = .slice (some ⟨w.heap.size, 0, none⟩) 0 n /\ w'.ownsRow w.heap.size 77 2 (.slice (some ⟨w.heap.size, 0, none⟩) 0 n) 0 [] /\ w.grownBy w' none := by
 obtain ⟨i0, hi, hz0, hz1, hz2⟩ := info_parts info56
 obtain ⟨w', hrun, r1, r2⟩ := run_make_own (P := Tryz.prog) w w.heap.size 74 77 i0 _ 2 Tryz.underlying74 hi hz0 hz1 .i64 .i64 n (by rw [hz2]; omega) (by unfold maxLen; omega) (Nat.le_refl _)
 exact ⟨_, w', hrun, rfl, r1, r2⟩

theorem heap_at2 (w : World) (o p : Obj) : ((w.alloc o).alloc p).heap[w.heap.size + 1]? = some p := by
 have := heap_alloc_new (w.alloc o) p
 rw [World.size_alloc] at this
 exact this

theorem appSt (w : World) (base : Nat) (v : Value) (n : Nat) (xs : List Value) (ty : TypeId) (hown : w.ownsRow base 77 2 v n xs) (B : Nat) (x y : Int) (hB : w.heap[B]? = some (.cells #[.int .i64 x, .int .i64 y] 77 (0, 0))) (hn : n <= 1048576) (hb : base <= w.heap.size) :
  ∃ v' w', (Builtin.append_ #[74, 74] ty #[v, .slice (some ⟨B, 0, none⟩) 1 1]).run Tryz.prog w = .ok v' w' /\ w'.ownsRow base 77 2 v' (n + 1) (xs ++ [.int .i64 x, .int .i64 y]) /\ w.grownBy w' v.ownBlock := by
 obtain ⟨i0, hi, hz0, hz1, hz2⟩ := info_parts info56
 obtain ⟨v', w', hr, h2, h3, h4, h5⟩ := run_append_own_at (P := Tryz.prog) w base 74 ty 77 i0 _ 2 16 Tryz.underlying74 hi hz0 hz1 hz2 rfl (by decide) v n xs hown ⟨B, 0, none⟩ 1 1 [.int .i64 x, .int .i64 y] rfl (fun j u hj => by
  have hc : ∀ k, w.cell? ⟨B, k, none⟩ = #[Value.int .i64 x, .int .i64 y][k]? := fun k => Lib.cell_of_heap hB k
  match j, hj with
  | 0, hj => simp at hj; subst hj; exact hc 0
  | 1, hj => simp at hj; subst hj; exact hc 1) (by simp [Value.oneCell']) (by unfold maxLen; omega) (by omega) hb
 exact ⟨v', w', hr, h2, h3⟩

theorem wpL_app (w : World) {ops : Array Oper} {rest : List Oper} {o : Oper} {a : Act} {Q : Exit -> Act -> World -> Prop} (hgd : o.guard = none) (s x : Operand)
  (ho : o.op = .call { callee := .builtin .append, args := #[s, x], argTypes := #[74, 74] }) (base : Nat) (v : Value) (n : Nat) (xs : List Value) (hs : a.eval s = v) (hown : w.ownsRow base 77 2 v n xs)
  (B : Nat) (p q : Int) (hx : a.eval x = .slice (some ⟨B, 0, none⟩) 1 1) (hB : w.heap[B]? = some (.cells #[.int .i64 p, .int .i64 q] 77 (0, 0))) (hn : n <= 1048576) (hb : base <= w.heap.size)
  (h : ∀ v' w', w'.ownsRow base 77 2 v' (n + 1) (xs ++ [.int .i64 p, .int .i64 q]) -> w.grownBy w' v.ownBlock -> wpList Tryz.prog ops Q rest (a.put o.dst v') w') : wpList Tryz.prog ops Q (o :: rest) a w := by
 refine wpList_plain hgd fun K hK => ?_
 obtain ⟨v', w', hr, h2, h3⟩ := appSt w base v n xs o.type hown B p q hB hn hb
 unfold Oper.wp execOp
 simp only [ho, resolve, invoke, builtin, Sem.run_bind, Sem.run_pure, Result.andThen_ok, List.map_toArray, List.map_cons, List.map_nil, hs, hx, hr]
 exact hK _ _ (h v' w' h2 h3)

theorem hst_hid {p : Prop} (h : p) : Hid p := h

theorem grown_of_below {w w' : World} (h : Below w.heap.size w w') : w.grownBy w' none := ⟨h.os, h.tape, h.output, h.size, fun i hi _ => h.block i hi⟩

set_option maxHeartbeats 2000000 in
set_option maxRecDepth 8000 in
theorem cStamps (a : Option Addr) (cap : Nat) (ss : List ByteArray) (b : Nat) (w : World) (hS : StrAt w a ss) (hz : ∀ s ∈ ss, s.size <= 1048576) (hn : ss.length <= 1048576) (hM : OwnsM w b 0 (fun _ => none)) (hab : 0 < ss.length -> ∀ x, a = some x -> x.block < b) :
  Calls Tryz.prog 41 #[.slice a ss.length cap, .map (some b)] w fun e w' => ∃ v, e = .returned v /\ w'.ownsRow w.heap.size 77 2 v ss.length (stC ss ss) /\ OwnsM w' b ss.length (fM ss ss.length) /\ Below b w w' := by
 have HS : Hid (StrAt w a ss) := hS
 have HZ : Hid (∀ s ∈ ss, s.size <= 1048576) := hz
 have HAB : Hid (0 < ss.length -> ∀ x, a = some x -> x.block < b) := hab
 have HM : Hid (OwnsM w b 0 (fun _ => none)) := hM
 have hbw : b < w.heap.size := by
  obtain ⟨es, clock, h⟩ := hM.map
  exact lt_of_heap h
 clear hS hz hab hM
 obtain ⟨n, hnn⟩ : ∃ n, ss.length = n := ⟨_, rfl⟩
 have HN : Hid (ss.length = n) := hnn
 rw [hnn] at hn ⊢
 clear hnn
 go_enter Tryz.func41, Tryz.ntmps41
 go_wp2_with fail
 refine hm_upon_ex (makeSt w n (by omega)) ?_
 rintro v w1 ⟨rfl, ho1, hg1⟩
 have HM1 : Hid (OwnsM w1 b 0 (fun _ => none)) := HM.out.kept hg1 (by simp)
 have HB1 : Hid (Below b w w1) := (Below.refl b w).grown hg1 (by omega) (by simp)
 have HO1 : Hid (w1.ownsRow w.heap.size 77 2 (.slice (some ⟨w.heap.size, 0, none⟩) 0 n) 0 []) := ho1
 have HL1 : Hid (w.heap.size <= w1.heap.size) := hg1.size
 clear ho1 hg1
 go_wp2_with fail
 go_loopw [5, 15] (fun v k wr => ∃ i : Nat, k = .int .i64 (i : Int) /\ i <= n /\ wr.ownsRow w.heap.size 77 2 v i (stC ss (ss.take i)) /\ OwnsM wr b i (fM ss i) /\ Below b w wr /\ w.heap.size <= wr.heap.size) (fun _ k _ => n - (intOf k).toNat)
 case atStart => exact ⟨0, rfl, Nat.zero_le _, HO1.out, by rw [fM_zero]; exact HM1.out, HB1.out, HL1.out⟩
 case round =>
  clear HO1 HM1 HB1 HL1 HM
  obtain ⟨i, rfl, hi, hO, hMr, hB, hL⟩ := hrel
  obtain ⟨v, hv⟩ : ∃ v, u5 = v := ⟨_, rfl⟩
  have HO : Hid (wr.ownsRow w.heap.size 77 2 u5 i (stC ss (ss.take i))) := hO
  have HMr : Hid (OwnsM wr b i (fM ss i)) := hMr
  have HB : Hid (Below b w wr) := hB
  clear hO hMr hv
  by_cases hlt : i < n
  ·have his : i < ss.length := by rw [HN.out]; exact hlt
   have HT : Hid (ss.take (i + 1) = ss.take i ++ [ss[i]]) := take_next his
   obtain ⟨lb, lo, rfl, _, c0⟩ := HS.out i his
   have hlb : lb < b := HAB.out (by omega) _ rfl
   have c1 : wr.cell? ⟨lb, lo + i, none⟩ = some (.string ss[i]) := (hB.cell (p := ⟨lb, lo + i, none⟩) hlb).trans c0
   have z1 := HZ.out _ (List.getElem_mem his)
   clear c0 hB
   by_cases hmem : ss[i] ∈ ss.take i
   ·have hf : fM ss i ss[i] = some (stp ss ss[i]) := by unfold fM; rw [if_pos hmem]
    have HF : Hid (fM ss (i + 1) = fM ss i) := fM_in his hmem
    obtain ⟨x, hx⟩ : ∃ x, ss[i] = x := ⟨_, rfl⟩
    have HX : Hid (ss[i] = x) := hx
    rw [hx] at c1 z1 hf HT
    clear hx hmem
    go_wp2_with fail
    refine hm_upon_run (HMr.out.look (s := x) (by unfold maxLen; omega)) ?_
    rw [hf]
    simp only [Option.getD_some, Option.isSome_some, stp]
    obtain ⟨H, hH⟩ : ∃ H : Nat, hsB x = H := ⟨_, rfl⟩
    obtain ⟨F, hF⟩ : ∃ F : Nat, fidx ss x = F := ⟨_, rfl⟩
    have HH : Hid (hsB x = H /\ fidx ss x = F) := ⟨hH, hF⟩
    rw [hH, hF]
    clear hH hF hf
    go_wp2_with (at_builtin; refine wpL_app _ rfl _ _ rfl w.heap.size u5 i _ rfl ((HO.out.alloc _).alloc _) _ _ _ rfl (heap_at2 _ _ _) (by omega) (by simp; omega) ?_; intro v' w' ho' hg')
    have hne : ∀ k, u5.ownBlock = some k -> w.heap.size <= k := fun k e => (HO.out.lt k e).1
    go_roundw
    case rel =>
     refine ⟨i + 1, by go_num, by omega, ?_, ?_, ?_, ?_⟩
     ·rw [HT.out, stC_snoc, HH.out.1, HH.out.2]; exact ho'
     ·rw [HF.out]
      exact (((HMr.out.alloc _).alloc _).kept hg' (fun e => by have := hne b e.symm; omega)).mono (Nat.le_succ _)
     ·exact ((HB.out.alloc (by omega) _).alloc (by simp; omega) _).grown hg' (by simp; omega) (fun k e => by have := hne k e; omega)
     ·exact Nat.le_trans (by simp; omega) hg'.size
    case measure => simp [intOf]; omega
   ·have hf : fM ss i ss[i] = none := by unfold fM; rw [if_neg hmem]
    have HF := hst_hid (fM_new his hmem)
    have hfi : fidx ss ss[i] = i := fidx_at his hmem
    obtain ⟨x, hx⟩ : ∃ x, ss[i] = x := ⟨_, rfl⟩
    have HX : Hid (ss[i] = x) := hx
    rw [hx] at c1 z1 hf HT HF hfi
    have HFI : Hid (fidx ss x = i) := hfi
    clear hx hmem hfi
    go_wp2_with fail
    refine hm_upon_run (HMr.out.look (s := x) (by unfold maxLen; omega)) ?_
    rw [hf]
    simp only [Option.getD_none, Option.isSome_none]
    clear hf
    go_wp2_with fail
    refine (cHashI x _ z1).mono ?_
    rintro e w2 ⟨rfl, hb2⟩
    have hh2 : w2.heap[wr.heap.size]? = some (.cells #[.int .i64 0, .int .i64 0] 77 (0, 0)) := (hb2.block _ (by simp)).trans (heap_alloc_new _ _)
    have hg2 := grown_of_below hb2
    have HM2 : Hid (OwnsM w2 b i (fM ss i)) := (HMr.out.alloc _).kept hg2 (by simp)
    have HO2 : Hid (w2.ownsRow w.heap.size 77 2 u5 i (stC ss (ss.take i))) := (HO.out.alloc _).kept hg2 (Decidable.em _)
    have HB2 : Hid (Below b w w2) := (HB.out.alloc (by omega) _).grown hg2 (by simp; omega) (by simp)
    have hL2 : w.heap.size <= w2.heap.size := Nat.le_trans (by simp; omega) hb2.size
    have hsz2 : wr.heap.size < w2.heap.size := lt_of_heap hh2
    obtain ⟨B, hBe⟩ : ∃ B, wr.heap.size = B := ⟨_, rfl⟩
    have hBb : w.heap.size <= B := by rw [<- hBe]; exact hL
    have HNE : Hid (u5.ownBlock ≠ some B) := fun e => by have := (HO.out.lt B e).2; omega
    rw [hBe] at hh2 hsz2 ⊢
    clear hBe hb2 hg2 HMr HO HB hL c1
    have k0 : w2.cell? ⟨B, 0, none⟩ = some (.int .i64 0) := by rw [Lib.cell_of_heap hh2]; rfl
    have k1 : w2.cell? ⟨B, 1, none⟩ = some (.int .i64 0) := by rw [Lib.cell_of_heap hh2]; rfl
    have f0 : w2.frozen? ⟨B, 0, none⟩ = false := Lib.frozen_of_heap hh2 0
    have f1 : w2.frozen? ⟨B, 1, none⟩ = false := Lib.frozen_of_heap hh2 1
    obtain ⟨H, hH⟩ : ∃ H : Nat, hsL x.data.toList = H := ⟨_, rfl⟩
    have HH : Hid (hsB x = H) := hH
    rw [hH]
    clear hH
    have hM3 := (HM2.out.setCell (a := ⟨B, 0, none⟩) (by show b ≠ B; omega) (.int .i64 (H : Int))).setCell (a := ⟨B, 1, none⟩) (by show b ≠ B; omega) (.int .i64 (i : Int))
    have hh3 : ((w2.setCell ⟨B, 0, none⟩ (.int .i64 (H : Int))).setCell ⟨B, 1, none⟩ (.int .i64 (i : Int))).heap[B]? = some (.cells #[.int .i64 (H : Int), .int .i64 (i : Int)] 77 (0, 0)) := by
     simp [World.setCell, Array.getElem?_modify, hh2]
    have hO3 := (HO2.out.kept (Lib.grownBy_setCell w2 B 0 (.int .i64 (H : Int))) (.inr HNE.out)).kept (Lib.grownBy_setCell _ B 1 (.int .i64 (i : Int))) (.inr HNE.out)
    have hB3 := (HB2.out.setCell (p := ⟨B, 0, none⟩) (by show b <= B; omega) (.int .i64 (H : Int))).setCell (p := ⟨B, 1, none⟩) (by show b <= B; omega) (.int .i64 (i : Int))
    have hS3 : ((w2.setCell ⟨B, 0, none⟩ (.int .i64 (H : Int))).setCell ⟨B, 1, none⟩ (.int .i64 (i : Int))).heap.size = w2.heap.size := by simp
    have HM3 := hst_hid (hM3)
    have HH3 := hst_hid (hh3)
    have HO3 := hst_hid (hO3)
    have HB3 := hst_hid (hB3)
    have HS3 := hst_hid (hS3)
    clear hM3 hh3 hO3 hB3 hS3 HM2 HO2 HB2 hh2
    go_wp2_with fail
    refine hm_upon_ex (HM3.out.store (by unfold maxLen; omega) (s := x) (by unfold maxLen; omega) (H : Int) (i : Int)) ?_
    rintro v3 w3 ⟨hM4, hg3⟩
    have hne : ∀ k, u5.ownBlock = some k -> w.heap.size <= k := fun k e => (HO3.out.lt k e).1
    have hh4 := (hg3.block B (by rw [HS3.out]; exact hsz2) (by simp; omega)).trans HH3.out
    have HO4 := hst_hid (HO3.out.kept hg3 (.inr (fun e => by have := hne b e; omega)))
    have HB4 := hst_hid (HB3.out.grown hg3 (by rw [HS3.out]; omega) (fun k e => by cases e; exact Nat.le_refl _))
    have HM4 := hst_hid (hM4)
    have hL4 : w.heap.size <= w3.heap.size := Nat.le_trans (by rw [HS3.out]; exact hL2) hg3.size
    have HNN := hst_hid (hne)
    clear hM4 hg3 HM3 HH3 HO3 HB3 HS3 k0 k1 f0 f1 hne
    have k0 : w3.cell? ⟨B, 0, none⟩ = some (.int .i64 (H : Int)) := by rw [Lib.cell_of_heap hh4]; rfl
    have k1 : w3.cell? ⟨B, 1, none⟩ = some (.int .i64 (i : Int)) := by rw [Lib.cell_of_heap hh4]; rfl
    clear hh4
    go_wp2_with (at_builtin; refine wpL_app _ rfl _ _ rfl w.heap.size u5 i _ rfl (HO4.out.alloc _) _ _ _ rfl (heap_alloc_new _ _) (by omega) (by simp; omega) ?_; intro v' w' ho' hg')
    go_roundw
    case rel =>
     refine ⟨i + 1, by go_num, by omega, ?_, ?_, ?_, ?_⟩
     ·rw [HT.out, stC_snoc, HH.out, HFI.out]; exact ho'
     ·rw [HF.out, HH.out]
      exact (HM4.out.alloc _).kept hg' (fun e => by have := HNN.out b e.symm; omega)
     ·exact (HB4.out.alloc (by omega) _).grown hg' (by simp; omega) (fun k e => by have := HNN.out k e; omega)
     ·exact Nat.le_trans (by simp; omega) hg'.size
    case measure => simp [intOf]; omega
  ·have hie : i = n := by omega
   subst hie
   have e : ss.take i = ss := List.take_of_length_le (by rw [HN.out]; exact Nat.le_refl _)
   have hO := HO.out
   rw [e] at hO
   have HO1 := hst_hid (hO)
   clear hO HO e hB
   go_wp2_with fail
   go_ret
   exact ⟨_, rfl, HO1.out, HMr.out, HB.out⟩

end Go.Proofs.YtoioiddjbanahaaGreatDoor

namespace Go.Proofs.YtoioiddjbanahaaGreatDoor

open Go.RowKit

theorem stC_get (ss : List ByteArray) : ∀ (l : List ByteArray) (i : Nat) (h : i < l.length), (stC ss l)[i * 2]? = some (.int .i64 ((hsB l[i] : Nat) : Int)) /\ (stC ss l)[i * 2 + 1]? = some (.int .i64 ((fidx ss l[i] : Nat) : Int))
 | t :: l, 0, _ => ⟨rfl, rfl⟩
 | t :: l, i + 1, h => by
  have := stC_get ss l i (by simpa using h)
  have e : stC ss (t :: l) = .int .i64 ((hsB t : Nat) : Int) :: .int .i64 ((fidx ss t : Nat) : Int) :: stC ss l := rfl
  rw [e, show (i + 1) * 2 = i * 2 + 1 + 1 by omega]
  exact this

theorem dgL_len (n : Int) : (dgL n).length <= 100 := by
 unfold dgL
 split
 ·rename_i h
  have := dec_le n.toNat (by omega)
  unfold padL
  simp
  omega
 ·simp

set_option maxHeartbeats 2000000 in
set_option maxRecDepth 8000 in
theorem cClashI (a : Option Addr) (cap : Nat) (ss : List ByteArray) (w : World) (hS : StrAt w a ss) (hz : ∀ s ∈ ss, s.size <= 1048576) (hn : ss.length <= 1048576) (hL : Laid w) :
  Calls Tryz.prog 14 #[.slice a ss.length cap] w fun e w' => e = .returned (.bool (clB ss)) /\ Below w.heap.size w w' := by
 obtain ⟨R, hR⟩ : ∃ R : Bool, clB ss = R := ⟨_, rfl⟩
 have HR : Hid (clB ss = R) := hR
 have HL : Hid (Laid w) := hL
 have C := cStamps a cap ss w.heap.size (w.alloc (.map #[] 0)) (hS.below ((Below.refl _ w).alloc (Nat.le_refl _) _)) hz hn (OwnsM.made w) (fun h x e => by
  obtain ⟨b, o, ha, hlt, _⟩ := hS 0 h
  rw [ha] at e
  cases e
  exact hlt)
 rw [hR]
 clear hR hS hz hL
 obtain ⟨n, hnn⟩ : ∃ n, ss.length = n := ⟨_, rfl⟩
 have HN : Hid (ss.length = n) := hnn
 rw [hnn] at hn C ⊢
 clear hnn
 go_enter Tryz.func14, Tryz.ntmps14
 go_wp2_with fail
 refine hm_upon_run (run_makeMapN 73 9 77 Tryz.underlying73 .i64 (n : Int) w) ?_
 go_wp2_with fail
 refine C.mono ?_
 rintro e w2 ⟨v, rfl, ho2, hM2, hB2⟩
 clear C
 have hB2' : Below w.heap.size w w2 := ((Below.refl _ w).alloc (Nat.le_refl _) _).trans hB2
 have hbw : w.heap.size < w2.heap.size := by
  obtain ⟨es, clock, h⟩ := hM2.map
  exact lt_of_heap h
 rcases ho2.2 with ⟨rfl, hn0⟩ | ⟨g, cap', cur, rfl, hgb, -⟩
 ·have hss : ss = [] := List.length_eq_zero_iff.1 (HN.out.trans hn0)
  have h1 := HR.out
  rw [hss] at h1
  have h2 : clB [] = false := rfl
  rw [h2] at h1
  subst h1 hn0
  have HM2 := hst_hid hM2
  have HB2 := hst_hid hB2'
  clear ho2 hM2 hB2 hB2' HR hss h2
  go_wp2_with fail
  refine hm_upon_ex (HM2.out.clear _) ?_
  rintro _ w3 ⟨rfl, hM3, hg3⟩
  have HB3 := hst_hid (HB2.out.grown hg3 (by omega) (fun k e => by cases e; exact Nat.le_refl _))
  clear hM3 hg3 HM2 HB2
  go_wp2_with fail
  go_loopw [19] (fun k wr => k = .int .i64 0 /\ Below w.heap.size w wr) (fun _ _ => 0)
  case atStart => exact ⟨rfl, HB3.out⟩
  case round =>
   obtain ⟨rfl, hB⟩ := hrel
   have HB := hst_hid hB
   clear hB
   go_wp2_with fail
   go_ret
   exact ⟨rfl, HB.out⟩
 ·have hg0 : w.heap.size < g := by simp at hgb; omega
  have HO2 := hst_hid ho2
  have HM2 := hst_hid hM2
  have HB2 := hst_hid hB2'
  clear ho2 hM2 hB2 hB2' hgb
  go_wp2_with fail
  refine hm_upon_ex (HM2.out.clear _) ?_
  rintro _ w3 ⟨rfl, hM3, hg3⟩
  have HO3 := hst_hid (HO2.out.kept hg3 (.inr (by simp [Value.ownBlock]; omega)))
  have HB3 := hst_hid (HB2.out.grown hg3 (by omega) (fun k e => by cases e; exact Nat.le_refl _))
  have HM3 := hst_hid hM3
  have hs3 : w.heap.size < w3.heap.size := Nat.lt_of_lt_of_le hbw hg3.size
  clear hM3 hg3 HM2 HO2 HB2 hbw
  go_wp2_with fail
  go_loopw [19] (fun k wr => ∃ i : Nat, k = .int .i64 (i : Int) /\ i <= n /\ ClGood ss i /\ wr.ownsRow (w.alloc (.map #[] 0)).heap.size 77 2 (.slice (some ⟨g, 0, none⟩) n cap') n (stC ss ss) /\ OwnsM wr w.heap.size i (gM ss (ss.take i)) /\ Below w.heap.size w wr /\ w.heap.size < wr.heap.size) (fun k _ => n - (intOf k).toNat)
  case atStart => exact ⟨0, rfl, Nat.zero_le _, good_zero ss, HO3.out, HM3.out, HB3.out, hs3⟩
  case round =>
   clear HO3 HM3 HB3 hs3
   obtain ⟨i, rfl, hi, hG, hO, hMr, hB, hsr⟩ := hrel
   have HG := hst_hid hG
   have HO := hst_hid hO
   have HM := hst_hid hMr
   have HB := hst_hid hB
   by_cases hlt : i < n
   ·have his : i < ss.length := by rw [HN.out]; exact hlt
    have HT := hst_hid (take_next his)
    obtain ⟨q1, q2⟩ := stC_get ss ss i his
    have c0 := hO.cells (g := g) rfl _ _ q1
    have c1 := hO.cells (g := g) rfl _ _ q2
    rw [Go.WideShapes.add_plain] at c0 c1
    simp only [Nat.zero_add] at c0 c1
    have HX := hst_hid (show stp ss ss[i] = (((hsB ss[i] : Nat) : Int), ((fidx ss ss[i] : Nat) : Int)) from rfl)
    have HK := hst_hid (show keyB ss[i] = ⟨(dgL ((hsB ss[i] : Nat) : Int)).toArray⟩ from rfl)
    generalize hsB ss[i] = H at c0 c1 HX HK
    generalize fidx ss ss[i] = F at c0 c1 HX
    have hin : (i : Int) < (n : Int) := by omega
    clear hO hMr hB hG q1 q2
    go_wp2_with fail
    refine (cDigI (H : Int) _ (HL.out.below (HB.out.alloc (by omega) _))).mono ?_
    rintro e w4 ⟨rfl, hb4⟩
    have hh4 : w4.heap[wr.heap.size]? = some (.cells #[.int .i64 (H : Int), .int .i64 (F : Int)] 77 (0, 0)) := (hb4.block _ (by simp)).trans (heap_alloc_new _ _)
    have hg4 := grown_of_below hb4
    have HM4 := hst_hid ((HM.out.alloc (.cells #[.int .i64 (H : Int), .int .i64 (F : Int)] 77)).kept hg4 (by simp))
    have HO4 := hst_hid ((HO.out.alloc (.cells #[.int .i64 (H : Int), .int .i64 (F : Int)] 77)).kept hg4 (Decidable.em _))
    have HB4 := hst_hid ((HB.out.alloc (by omega) (.cells #[.int .i64 (H : Int), .int .i64 (F : Int)] 77)).grown hg4 (by simp; omega) (by simp))
    have hs4 : w.heap.size < w4.heap.size := Nat.lt_of_lt_of_le (by simp; omega) hb4.size
    have hz4 : wr.heap.size < w4.heap.size := lt_of_heap hh4
    obtain ⟨B, hBe⟩ : ∃ B, wr.heap.size = B := ⟨_, rfl⟩
    have hBw : w.heap.size < B := by rw [<- hBe]; exact hsr
    have k0 : w4.cell? ⟨B, 0, none⟩ = some (.int .i64 (H : Int)) := by rw [<- hBe, Lib.cell_of_heap hh4]; rfl
    have k1 : w4.cell? ⟨B, 1, none⟩ = some (.int .i64 (F : Int)) := by rw [<- hBe, Lib.cell_of_heap hh4]; rfl
    have HH4 := hst_hid hh4
    obtain ⟨K, hK⟩ : ∃ K : ByteArray, ⟨(dgL (H : Int)).toArray⟩ = K := ⟨_, rfl⟩
    have hKs : K.size <= 100 := by rw [<- hK, pad_size_mk]; exact dgL_len _
    have HKK := hst_hid (HK.out.trans hK)
    rw [hBe] at HH4 hz4 ⊢
    rw [hK]
    clear hBe hb4 hg4 hh4 HM HO HB hsr c0 c1 HK hK
    go_wp2_with fail
    refine hm_upon_run (HM4.out.look (s := K) (by unfold maxLen; omega)) ?_
    have hne : ∀ p : Int × Int, gM ss (ss.take i) K = some p -> p ≠ ((H : Int), (F : Int)) -> R = true := fun p h hp => by
     rw [<- HR.out]
     rw [<- HKK.out] at h
     rw [<- HX.out] at hp
     exact clash_now his h hp
    have HNE := hst_hid hne
    clear hne
    cases hgm : gM ss (ss.take i) K with
    | none =>
     simp only [Option.getD_none, Option.isSome_none]
     have HGN := hst_hid hgm
     clear hgm
     go_wp2_with fail
     refine hm_upon_ex ((HM4.out.alloc _).store (by unfold maxLen; omega) (s := K) (by unfold maxLen; omega) (H : Int) (F : Int)) ?_
     rintro _ w5 ⟨hM5, hg5⟩
     have HM5 := hst_hid hM5
     have HO5 := hst_hid ((HO4.out.alloc _).kept hg5 (.inr (by simp [Value.ownBlock]; omega)))
     have HB5 := hst_hid ((HB4.out.alloc (by omega) _).grown hg5 (by simp; omega) (fun k e => by cases e; exact Nat.le_refl _))
     have hs5 : w.heap.size < w5.heap.size := Nat.lt_of_lt_of_le (by simp; omega) hg5.size
     have HG5 := hst_hid (clash_not his HG.out (.inl (by rw [HKK.out]; exact HGN.out)))
     clear hM5 hg5 HM4 HO4 HB4 HG k0 k1 HH4
     go_wp2_with fail
     go_roundw
     case rel =>
      refine ⟨i + 1, by go_num, by omega, HG5.out, HO5.out, ?_, HB5.out, hs5⟩
      rw [HT.out, gM_snoc, HKK.out, HX.out]
      exact HM5.out
     case measure => simp [intOf]; omega
    | some p =>
     obtain ⟨p1, p2⟩ := p
     simp only [Option.getD_some, Option.isSome_some]
     have HGN := hst_hid hgm
     clear hgm
     by_cases e1 : p1 = (H : Int)
     ·by_cases e2 : p2 = (F : Int)
      ·subst e1 e2
       go_wp2_with fail
       refine hm_upon_ex ((HM4.out.alloc _).store (by unfold maxLen; omega) (s := K) (by unfold maxLen; omega) (H : Int) (F : Int)) ?_
       rintro _ w5 ⟨hM5, hg5⟩
       have HM5 := hst_hid hM5
       have HO5 := hst_hid ((HO4.out.alloc _).kept hg5 (.inr (by simp [Value.ownBlock]; omega)))
       have HB5 := hst_hid ((HB4.out.alloc (by omega) _).grown hg5 (by simp; omega) (fun k e => by cases e; exact Nat.le_refl _))
       have hs5 : w.heap.size < w5.heap.size := Nat.lt_of_lt_of_le (by simp; omega) hg5.size
       have HG5 := hst_hid (clash_not his HG.out (.inr (by rw [HKK.out, HX.out]; exact HGN.out)))
       clear hM5 hg5 HM4 HO4 HB4 HG k0 k1 HH4
       go_wp2_with fail
       go_roundw
       case rel =>
        refine ⟨i + 1, by go_num, by omega, HG5.out, HO5.out, ?_, HB5.out, hs5⟩
        rw [HT.out, gM_snoc, HKK.out, HX.out]
        exact HM5.out
       case measure => simp [intOf]; omega
      ·obtain rfl := HNE.out _ HGN.out (by simp [e2])
       subst e1
       go_wp2_with fail
       go_ret
       exact ⟨rfl, HB4.out.alloc (by omega) _⟩
     ·obtain rfl := HNE.out _ HGN.out (by simp [e1])
      go_wp2_with fail
      go_ret
      exact ⟨rfl, HB4.out.alloc (by omega) _⟩
   ·have hie : i = n := by omega
    subst hie
    rw [<- HN.out] at hG
    have h1 := HR.out
    rw [good_end hG] at h1
    subst h1
    clear hG hO hMr hB HG HR
    go_wp2_with fail
    go_ret
    exact ⟨rfl, HB.out⟩

end Go.Proofs.YtoioiddjbanahaaGreatDoor
