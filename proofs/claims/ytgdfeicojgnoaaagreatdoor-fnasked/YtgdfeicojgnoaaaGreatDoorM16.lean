/- l16Enter at a table that has no rows yet; what a table that is being drawn is. A table that is being drawn: kept by draws, entered into. The specification's l16Enter at the first table of a gate's box. -/
import Derived.Test.YtgdfeicojgnoaaaGreatDoorM7
import Derived.Test.YtgdfeicojgnoaaaGreatDoorM14
import Derived.Test.YtgdfeicojgnoaaaGreatDoorM15
import Derived.Test.YtgdfeicojgnoaaaGreatDoorM10
import Derived.Test.YtgdfeicojgnoaaaGreatDoorM12
import Derived.Test.YtgdfeicojgnoaaaGreatDoorM8
namespace Go.Proofs.YtgdfeicojgnoaaaGreatDoor
open Go.RowKit
set_option linter.unusedVariables false
set_option linter.unusedSimpArgs false

/-- append of nothing to a row of one's own. -/
theorem u_run_none {P : Program} (W : World) (t ty e : TypeId) (i : TypeInfo) (h1 : P.underlying t = some (.slice e)) (h2 : P.info? e = some i) (b : Option Addr) (n c cx : Nat) (hle : n ≤ c) :
    (Builtin.append_ #[t, t] ty #[.slice b n c, .slice none 0 cx]).run P W = .ok (.slice b n c) W :=
  run_append_nothing (P := P) W t t ty e i h1 h2 b n c hle _ (Src.ofNil W h1 cx)

theorem u_wpL_app {P : Program} (w : World) {ops : Array Oper} {rest : List Oper} {o : Oper} {a : Act} {Q : Exit → Act → World → Prop} (hgd : o.guard = none) (d s : Operand) (t t' : TypeId)
    (ho : o.op = .call { callee := .builtin .append, args := #[d, s], argTypes := #[t, t'] }) (v u : Value) (hd : a.eval d = v) (hs : a.eval s = u) {v' : Value} {w' : World}
    (hr : (Builtin.append_ #[t, t'] o.type #[v, u]).run P w = .ok v' w') (h : wpList P ops Q rest (a.put o.dst v') w') : wpList P ops Q (o :: rest) a w := by
  refine wpList_plain hgd fun K hK => ?_
  unfold Oper.wp execOp
  simp only [ho, resolve, invoke, builtin, Sem.run_bind, Sem.run_pure, Result.andThen_ok, List.map_toArray, List.map_cons, List.map_nil, hd, hs, hr]
  exact hK _ _ h

theorem u_stopW {p : Prop} (h : Hid p) : p := h
theorem u_stopX {p : Prop} (h : p) : Hid p := h

theorem findR_nil (id : ByteArray) : findR [] id = 0 := rfl
theorem isR_nil (id : ByteArray) : isR [] id = false := isR_len rfl

set_option maxRecDepth 8000 in
set_option maxHeartbeats 8000000 in
theorem cEnterNil (P B : Nat) (m : Int) (id : ByteArray) (til : Int) (w : World) (hP : w.heap[P]? = some (.cells #[.int .i64 m, .slice none 0 0] 27 (0, 0))) (hi : id.size ≤ 1048576) (hB : B ≤ w.heap.size) (hm : ¬ (0 : Int) = m) :
    Calls Tryz.prog 36 #[.pointer (some ⟨P, 0, none⟩), .string id, .int .i64 til] w (EnterPost P B (⟨m, [⟨id, til⟩]⟩, 0) w) := by
  have CF := hid (cFindS ⟨m, []⟩ none 0 id w (RoRow.nil _ _) (fun x hx => (List.not_mem_nil hx).elim) (Nat.zero_le _) hi)
  unfold tbV at CF
  simp only [findR_nil, isR_nil, List.length_nil] at CF
  have HP := hid hP
  have HBB := hid hB
  obtain ⟨⟨x0, x1⟩, x2, x3⟩ := u_box2f HP.out
  have hqb : ((0 : Int) == m) = false := by simpa using hm
  clear hP hB
  obtain ⟨i0, hi0, hz0, hz1, hz2⟩ := info_parts infoRoW
  have HI := hid (And.intro hi0 (And.intro hz0 (And.intro hz1 hz2)))
  have HNo := hid (fun (W : World) ty b n c => u_run_none (P := Tryz.prog) W 25 ty 83 i0 Tryz.underlying25 hi0 b n c 0)
  clear hi0 hz0 hz1 hz2
  go_enter Tryz.func36, Tryz.ntmps36
  go_wp2_with fail
  refine CF.out.mono ?_
  rintro e w1 ⟨rfl, hb1⟩
  have HB1 := hid hb1
  have HP1 := hid (u_blk_below HP.out hb1)
  clear hb1 CF x0 x1 x2 x3
  obtain ⟨⟨x0, x1⟩, x2, x3⟩ := u_box2f HP1.out
  go_wp2_with fail
  go_quiet (fail)
  generalize hwd : w1.drewN _ = wd
  have HBd := hid (show Below w.heap.size w wd by rw [← hwd]; exact below_drewN HB1.out _)
  have HPd := hid (show wd.heap[P]? = some (.cells #[.int .i64 m, .slice none 0 0] 27 (0, 0)) by rw [← hwd]; exact HP1.out)
  clear hwd x0 x1 x2 x3 HP1 HB1
  obtain ⟨⟨x0, x1⟩, x2, x3⟩ := u_box2f HPd.out
  have HB1 := hid ((Below.refl wd.heap.size wd).alloc (Nat.le_refl _) (.cells #[] 83))
  obtain ⟨⟨p0, p1⟩, p2, p3⟩ := u_box2f (u_blk_below HPd.out HB1.out)
  have HB2 := hid (HB1.out.alloc HB1.out.size (.cells #[] 83))
  obtain ⟨⟨q0, q1⟩, q2, q3⟩ := u_box2f (u_blk_below HPd.out HB2.out)
  have HO2 := hid (u_own_new (wd.alloc (.cells #[] 83)) 83 2)
  have HO3 := hid (HO2.out.alloc (.cells #[.string id, .int .i64 til] 83))
  have HN3 := hid (u_Rd.new ((wd.alloc (.cells #[] 83)).alloc (.cells #[] 83)) 83 2 (roC [⟨id, til⟩]) 1 rfl)
  have HB3 := hid (HB2.out.alloc HB2.out.size (.cells #[.string id, .int .i64 til] 83))
  have hsz : (wd.alloc (.cells #[] 83)).heap.size = wd.heap.size + 1 := World.size_alloc _ _
  have hsz2 : ((wd.alloc (.cells #[] 83)).alloc (.cells #[] 83)).heap.size = wd.heap.size + 1 + 1 := by rw [World.size_alloc, hsz]
  rw [hsz] at HO2 HO3
  rw [hsz2] at HN3
  clear hsz hsz2
  go_wp2_with (at_builtin; refine u_stopW ?_)
  refine u_stopX ?_
  refine u_wpL_app _ rfl _ _ _ _ rfl (.slice (some ⟨wd.heap.size, 0, none⟩) 0 0) (.slice none 0 0) rfl rfl (HNo.out _ _ _ _ _ (Nat.le_refl _)) ?_
  go_wp2_with (at_builtin; refine u_stopW ?_)
  refine u_stopX ?_
  refine u_wpL_app _ rfl _ _ _ _ rfl (.slice (some ⟨wd.heap.size + 1, 0, none⟩) 0 0) (.slice none 0 0) rfl rfl (HNo.out _ _ _ _ _ (Nat.le_refl _)) ?_
  go_wp2_with (at_builtin; refine u_stopW ?_)
  refine u_stopX ?_
  refine u_wpL_own _ rfl _ _ _ rfl 83 i0 _ 2 24 Tryz.underlying25 HI.out.1 HI.out.2.1 HI.out.2.2.1 HI.out.2.2.2 rfl (by decide) (wd.heap.size + 1) (wd.heap.size + 1) 0 0 1 [] (roC [⟨id, til⟩]) _ rfl rfl HO3.out HN3.out (roC_one _) (by omega) (by omega) (by simp only [World.size_alloc]; omega) 1 rfl (roC [⟨id, til⟩]) rfl ?_
  intro g6 c6 w6 ho6 hb6
  have HB6 := hid (HB3.out.trans (hb6.mono (Nat.le_succ _)))
  have HO6 := hid ho6
  have HR6 := hid (show u_Rd w6 2 (.slice (some ⟨wd.heap.size, 0, none⟩) 0 0) 0 [] from ⟨⟨_, 0, 0, rfl, by have h1 := hb6.size; simp at h1; omega, Nat.le_refl _, fun j u hj => by simp at hj⟩, rfl⟩)
  clear ho6 hb6 HO2 HO3 HN3 p0 p1 p2 p3 q0 q1 q2 q3
  go_wp2_with (at_builtin; refine u_wpL_own _ rfl _ _ _ rfl 83 i0 _ 2 24 Tryz.underlying25 HI.out.1 HI.out.2.1 HI.out.2.2.1 HI.out.2.2.2 rfl (by decide) (wd.heap.size + 1) g6 c6 1 0 (roC [⟨id, til⟩]) [] _ rfl rfl HO6.out HR6.out (fun u hu => by simp at hu) (by omega) (by omega) (by have := (HO6.out.lt g6 rfl); omega) 1 rfl (roC [⟨id, til⟩]) rfl ?_)
  intro g8 c8 w8 ho8 hb8
  have HB8 := hid (HB6.out.trans (hb8.mono (Nat.le_succ _)))
  have HP8 := hid (u_blk_below HPd.out HB8.out)
  have HGe := hid (show wd.heap.size < g8 from (ho8.lt _ rfl).1)
  have HO8 := hid ho8
  clear ho8 hb8
  obtain ⟨⟨p0, p1⟩, p2, p3⟩ := u_box2f HP8.out
  go_wp2_with fail
  go_ret
  have hPl : P < wd.heap.size := lt_of_heap HPd.out
  have hne : (Value.slice (some ⟨g8, 0, none⟩) 1 c8).ownBlock ≠ some P := fun e => by
    have h1 := HGe.out
    have h2 : g8 = P := Option.some.inj e
    omega
  refine ⟨g8, c8, rfl, ?_, ?_, ?_⟩
  · have := u_heap_set (i := 1) HP8.out (.slice (some ⟨g8, 0, none⟩) 1 c8)
    simpa using this
  · unfold RoOwn
    refine u_own_set (u_own_base HO8.out ?_) hne _ _
    have h1 := HBd.out.size
    have h3 := HBB.out
    omega
  · exact (u_KeepB.of_below _ HBd.out).trans ((u_KeepB.of_below _ HB8.out).trans (u_KeepB.of_set _ _ _ rfl))

end Go.Proofs.YtgdfeicojgnoaaaGreatDoor

namespace Go.Proofs.YtgdfeicojgnoaaaGreatDoor
open Go.RowKit
set_option linter.unusedVariables false
set_option linter.unusedSimpArgs false

/-- In block P lies a table with that most and those rows, the rows in memory from B on. -/
def TbD (w : World) (B P : Nat) (m : Int) (l : List Ro) : Prop := ∃ v, w.heap[P]? = some (.cells #[.int .i64 m, v] 27 (0, 0)) ∧ w.ownsRow B 83 2 v l.length (roC l)

theorem TbD.below {w w' : World} {B P : Nat} {m : Int} {l : List Ro} (h : TbD w B P m l) (hb : Below w.heap.size w w') : TbD w' B P m l := by
  obtain ⟨v, h1, h2⟩ := h
  exact ⟨v, u_blk_below h1 hb, ownsRow_below h2 hb⟩

theorem TbD.draw {w0 w w1 : World} {a : Option Addr} {len cap b B P : Nat} {m : Int} {l : List Ro} (h : TbD w B P m l) (hC : Cur w0 a len cap b w) (hg : w.grownBy w1 (some b)) : TbD w1 B P m l := by
  obtain ⟨v, h1, h2⟩ := h
  obtain ⟨_, _, i, x, _, _, hh⟩ := hC
  have hP : ¬ P = b := fun e => by
    subst e
    rw [h1] at hh
    injection hh with hh
    injection hh with _ ht
    exact absurd ht (by decide)
  refine ⟨v, (hg.block P (lt_of_heap h1) (fun e => hP (Option.some.inj e))).trans h1, ?_⟩
  rcases h2.2 with h3 | ⟨g, cp, cur, rfl, k1, k2, k3⟩
  · exact ⟨h2.1, .inl h3⟩
  · have hgb : ¬ g = b := fun e => by
      subst e
      rw [k2] at hh
      injection hh with hh
      injection hh with _ ht
      exact absurd ht (by decide)
    exact ⟨h2.1, .inr ⟨g, cp, cur, rfl, k1, (hg.block g (lt_of_heap k2) (fun e => hgb (Option.some.inj e))).trans k2, k3⟩⟩

theorem enterT_len (t : Tb) (id : ByteArray) (til : Int) : (enterT t id til).1.rows.length ≤ t.rows.length + 1 := by
  unfold enterT
  split
  · exact Nat.le_succ _
  · split
    · exact Nat.le_succ _
    · exact Nat.le_of_eq (insR_len _ _ _ (findR_le _ _))

theorem enterT_sz {t : Tb} {id : ByteArray} {til : Int} {z : Nat} (hz : RoSz z t.rows) (hi : id.size ≤ z) : RoSz z (enterT t id til).1.rows := by
  unfold enterT
  split
  · exact hz
  · split
    · exact hz
    · intro x hx
      have hx' : x ∈ insR t.rows (findR t.rows id) ⟨id, til⟩ := hx
      unfold insR at hx'
      rcases List.mem_append.1 hx' with h1 | h1
      · exact hz x (List.mem_of_mem_take h1)
      · rcases List.mem_cons.1 h1 with h2 | h2
        · subst h2; exact hi
        · exact hz x (List.mem_of_mem_drop h2)

/-- One more is entered. -/
theorem cEnterD (P B : Nat) (m : Int) (l : List Ro) (id : ByteArray) (til : Int) (w : World) (h : TbD w B P m l) (hn : l.length ≤ 100) (hz : RoSz 10 l) (hi : id.size ≤ 10) (hB : B ≤ w.heap.size) (hm : ¬ (0 : Int) = m) :
    Calls Tryz.prog 36 #[.pointer (some ⟨P, 0, none⟩), .string id, .int .i64 til] w fun e w' => ∃ (x : Int) (l' : List Ro), e = .returned (.int .i64 x) ∧ TbD w' B P m l' ∧ l'.length ≤ l.length + 1 ∧ RoSz 10 l' ∧ u_KeepB (fun b => b = P) w w' := by
  obtain ⟨v, h1, h2⟩ := h
  rcases h2.2 with ⟨rfl, h3⟩ | ⟨g, cp, cur, rfl, k1, k2, k3⟩
  · obtain rfl : l = [] := List.length_eq_zero_iff.1 h3
    refine (cEnterNil P B m id til w h1 (Nat.le_trans hi (by decide)) hB hm).mono ?_
    rintro e w' ⟨g', c', rfl, hP, hO, hk⟩
    exact ⟨0, [⟨id, til⟩], rfl, ⟨_, hP, hO⟩, Nat.le_refl _, fun x hx => by rw [List.mem_singleton.1 hx]; exact hi, hk⟩
  · refine (cEnterS P B g cp m l id til w h1 h2 (Nat.le_trans hn (by decide)) (hz.mono (by decide)) (Nat.le_trans hi (by decide)) hB).mono ?_
    rintro e w' ⟨g', c', rfl, hP, hO, hk⟩
    have hm2 := enterT_most ⟨m, l⟩ id til
    refine ⟨_, (enterT ⟨m, l⟩ id til).1.rows, rfl, ⟨_, ?_, hO⟩, enterT_len ⟨m, l⟩ id til, enterT_sz (t := ⟨m, l⟩) hz hi, hk⟩
    rw [hm2] at hP
    exact hP

/-- What stays of the cursor and the world where block P is written. -/
theorem Cur.keepU {w0 : World} {a : Option Addr} {len cap b : Nat} {w w1 : World} {P : Nat} (h : Cur w0 a len cap b w) (hk : u_KeepB (fun k => k = P) w w1) (hP : ¬ b = P) (h0 : w0.heap.size ≤ P) : Cur w0 a len cap b w1 :=
  h.grown (row := some P) ⟨hk.os, hk.tape, hk.output, hk.size, fun k hk1 hk2 => hk.block k hk1 (fun e => hk2 (by rw [e]))⟩ (fun e => hP (Option.some.inj e)) (fun k e => by cases e; exact h0)

theorem gr_keep {w wr w' : World} {b P : Nat} (h : w.grownBy wr (some b)) (hk : u_KeepB (fun k => k = P) wr w') (hP : w.heap.size ≤ P) : w.grownBy w' (some b) :=
  ⟨hk.os.trans h.os, hk.tape.trans h.tape, hk.output.trans h.output, Nat.le_trans h.size hk.size, fun i hi hr => (hk.block i (Nat.lt_of_lt_of_le hi h.size) (fun e => by omega)).trans (h.block i hi hr)⟩

theorem gr_setU {w wr : World} {b P : Nat} (h : w.grownBy wr (some b)) (hP : w.heap.size ≤ P) (o : Nat) (v : Value) : w.grownBy (wr.setCell ⟨P, o, none⟩ v) (some b) := gr_keep h (u_KeepB.of_set _ _ _ rfl) hP

theorem Cur.tableNe {w0 : World} {a : Option Addr} {len cap b : Nat} {w : World} (h : Cur w0 a len cap b w) {P : Nat} {cs : Array Value} (hP : w.heap[P]? = some (.cells cs 27 (0, 0))) : ¬ b = P := fun e => by
  subst e
  obtain ⟨_, _, i, x, _, _, hh⟩ := h
  rw [hP] at hh
  injection hh with hh
  injection hh with _ ht
  exact absurd ht (by decide)

theorem blk_draw {w w1 : World} {b P : Nat} {o : Obj} (h : w.heap[P]? = some o) (hg : w.grownBy w1 (some b)) (hne : ¬ b = P) : w1.heap[P]? = some o :=
  (hg.block P (lt_of_heap h) (fun e => hne (Option.some.inj e).symm)).trans h

end Go.Proofs.YtgdfeicojgnoaaaGreatDoor

namespace Go.Proofs.YtgdfeicojgnoaaaGreatDoor
open Go.RowKit
set_option linter.unusedVariables false
set_option linter.unusedSimpArgs false

theorem g_boxT {w : World} {g : Nat} {a b c d e f i j : Value} {T : TypeId} (h : w.heap[g]? = some (.cells #[a, b, c, d, e, f, i, j] T (0, 0))) :
    (w.cell? ⟨g, 4, none⟩ = some e ∧ w.cell? ⟨g, 5, none⟩ = some f) ∧ w.frozen? ⟨g, 4, none⟩ = false ∧ w.frozen? ⟨g, 5, none⟩ = false :=
  ⟨⟨Lib.cell_of_heap h _, Lib.cell_of_heap h _⟩, Lib.frozen_of_heap h _, Lib.frozen_of_heap h _⟩

/-- What l16Enter leaves there. -/
def EnterPostG (P B g : Nat) (l : List Ro) (v0 v1 v2 v3 v6 v7 : Value) (T : Tb × Int) (w : World) (e : Ending) (w' : World) : Prop :=
  ∃ g' c', e = .returned (.int .i64 T.2) ∧ w'.heap[P]? = some (.cells #[v0, v1, v2, v3, .int .i64 T.1.most, .slice (some ⟨g', 0, none⟩) T.1.rows.length c', v6, v7] 29 (0, 0)) ∧ RoOwn w' B g' c' T.1.rows ∧ u_KeepB (fun b => b = P) w w' ∧ ((g' = g ∧ T.1.rows = l) ∨ w.heap.size ≤ g')

set_option maxRecDepth 8000 in
set_option maxHeartbeats 8000000 in
theorem cEnterG (P B g c : Nat) (v0 v1 v2 v3 v6 v7 : Value) (m : Int) (l : List Ro) (id : ByteArray) (til : Int) (w : World) (hP : w.heap[P]? = some (.cells #[v0, v1, v2, v3, .int .i64 m, .slice (some ⟨g, 0, none⟩) l.length c, v6, v7] 29 (0, 0)))
    (hO : RoOwn w B g c l) (hn : l.length ≤ 100000) (hz : RoSz 1048576 l) (hi : id.size ≤ 1048576) (hB : B ≤ w.heap.size) :
    Calls Tryz.prog 36 #[.pointer (some ⟨P, 4, none⟩), .string id, .int .i64 til] w (EnterPostG P B g l v0 v1 v2 v3 v6 v7 (enterT ⟨m, l⟩ id til) w) := by
  have CF := hid (cFindS ⟨m, l⟩ (some ⟨g, 0, none⟩) c id w hO.row hz (Nat.le_trans hn (by decide)) hi)
  unfold tbV at CF
  simp only at CF
  have HK := hid (findR_le l id)
  obtain ⟨k, hk⟩ : ∃ k, findR l id = k := ⟨_, rfl⟩
  have HP := hid hP
  have HO := hid hO
  have HKE := hid hk
  have HBB := hid hB
  rw [hk] at CF HK
  have HL : Hid (∀ n, l.length = n → ((isR l id = true → enterT ⟨m, l⟩ id til = (⟨m, l⟩, 1)) ∧ (isR l id = false → (n : Int) = m → enterT ⟨m, l⟩ id til = (⟨m, l⟩, 2)) ∧ (isR l id = false → ¬ (n : Int) = m → enterT ⟨m, l⟩ id til = (⟨m, insR l k ⟨id, til⟩⟩, 0)))) := fun n hn => by
    refine ⟨fun h => enterT_there (t := ⟨m, l⟩) h, fun h h2 => enterT_full (t := ⟨m, l⟩) h (by rw [hn]; exact h2), fun h h2 => ?_⟩
    rw [enterT_in (t := ⟨m, l⟩) h (by rw [hn]; exact h2)]
    simp only [hk]
  obtain ⟨T, hT⟩ : ∃ T, enterT ⟨m, l⟩ id til = T := ⟨_, rfl⟩
  rw [hT]
  simp only [hT] at HL
  obtain ⟨n, hnn⟩ : ∃ n, l.length = n := ⟨_, rfl⟩
  have HN := hid hnn
  have HLn := hid (HL.out n hnn)
  have HRd := hid hO.rd
  rw [hnn] at CF HK HP hn HRd
  have HC := hid (show n ≤ c by obtain ⟨b, o, c', e, _, h3, _⟩ := HRd.out.at_; cases e; exact h3)
  have hkn : k ≤ n := HK.out
  have hnc : n ≤ c := HC.out
  obtain ⟨⟨x0, x1⟩, x2, x3⟩ := g_boxT HP.out
  clear hP hO hz hk hT hnn HL hB
  cases hI : isR l id with
  | true =>
    have HE := hid (HLn.out.1 hI)
    rw [hI] at CF
    clear hI
    go_enter Tryz.func36, Tryz.ntmps36
    go_wp2_with fail
    refine CF.out.mono ?_
    rintro e w1 ⟨rfl, hb1⟩
    have HB1 := hid hb1
    clear hb1 CF
    go_wp2_with fail
    go_ret
    refine ⟨g, c, by rw [HE.out]; rfl, ?_, ?_, u_KeepB.of_below _ HB1.out, .inl ⟨rfl, by rw [HE.out]⟩⟩
    · rw [HE.out]
      simp only [HN.out]
      exact u_blk_below HP.out HB1.out
    · rw [HE.out]
      exact HO.out.below HB1.out
  | false =>
    have HEs := hid (And.intro (HLn.out.2.1 hI) (HLn.out.2.2 hI))
    rw [hI] at CF
    clear hI HLn
    go_enter Tryz.func36, Tryz.ntmps36
    go_wp2_with fail
    refine CF.out.mono ?_
    rintro e w1 ⟨rfl, hb1⟩
    have HB1 := hid hb1
    have HP1 := hid (u_blk_below HP.out hb1)
    clear hb1 CF x0 x1 x2 x3
    obtain ⟨⟨x0, x1⟩, x2, x3⟩ := g_boxT HP1.out
    by_cases hq : (n : Int) = m
    · have HE := hid (HEs.out.1 hq)
      have hqb : ((n : Int) == m) = true := by simpa using hq
      clear hq
      go_wp2_with fail
      go_quiet (fail)
      go_wp2_with fail
      go_ret
      refine ⟨g, c, by rw [HE.out]; rfl, ?_, ?_, u_KeepB.of_below _ (below_drewN HB1.out _), .inl ⟨rfl, by rw [HE.out]⟩⟩
      · rw [HE.out]
        simp only [HN.out]
        exact HP1.out
      · rw [HE.out]
        exact HO.out.below (below_drewN HB1.out _)
    · have HE := hid (HEs.out.2 hq)
      have hqb : ((n : Int) == m) = false := by simpa using hq
      have hkI : (k : Int) ≤ (n : Int) := by omega
      have hncI : (n : Int) ≤ (c : Int) := by omega
      clear hq
      go_wp2_with fail
      go_quiet (fail)
      generalize hwd : w1.drewN _ = wd
      have HBd := hid (show Below w.heap.size w wd by rw [← hwd]; exact below_drewN HB1.out _)
      have HPd := hid (show wd.heap[P]? = some (.cells #[v0, v1, v2, v3, .int .i64 m, .slice (some ⟨g, 0, none⟩) n c, v6, v7] 29 (0, 0)) by rw [← hwd]; exact HP1.out)
      clear hwd x0 x1 x2 x3 HP1 HB1
      obtain ⟨⟨x0, x1⟩, x2, x3⟩ := g_boxT HPd.out
      have HRd' := hid (HRd.out.below HBd.out)
      have HRF := hid (HRd'.out.from hkn)
      have HRU := hid (HRd'.out.upto hkn)
      rw [roC_drop] at HRF
      rw [roC_take] at HRU
      have hfr := sl_fromR g 0 n c k hkn hnc
      have hup := sl_uptoR g 0 n c k hkn hnc
      simp only [Nat.zero_add] at hfr HRF
      obtain ⟨i0, hi0, hz0, hz1, hz2⟩ := info_parts infoRoW
      have HI := hid (And.intro hi0 (And.intro hz0 (And.intro hz1 hz2)))
      clear hi0 hz0 hz1 hz2
      generalize (if c = k then (⟨g, 0, none⟩ : Addr) else ⟨g, k * 2, none⟩) = A1 at *
      have HB1 := hid ((Below.refl wd.heap.size wd).alloc (Nat.le_refl _) (.cells #[] 83))
      have HO1 := hid (u_own_new wd 83 2)
      have HF1 := hid (HRF.out.below HB1.out)
      obtain ⟨⟨p0, p1⟩, p2, p3⟩ := g_boxT (u_blk_below HPd.out HB1.out)
      go_wp2_with (at_builtin; refine u_wpL_own _ rfl _ _ _ rfl 83 i0 _ 2 24 Tryz.underlying25 HI.out.1 HI.out.2.1 HI.out.2.2.1 HI.out.2.2.2 rfl (by decide) wd.heap.size wd.heap.size 0 0 (n - k) [] (roC (l.drop k)) _ rfl rfl HO1.out HF1.out (roC_one _) (by omega) (by omega) HB1.out.size (n - k) (by omega) (roC (l.drop k)) rfl ?_)
      intro g2 c2 w2 ho2 hb2
      have HB2 := hid (HB1.out.trans hb2)
      have HRS := hid (u_Rd.own ho2)
      have HP2 := hid (u_blk_below HPd.out HB2.out)
      clear ho2 hb2 HO1 HF1 p0 p1 p2 p3 hfr
      obtain ⟨⟨p0, p1⟩, p2, p3⟩ := g_boxT HP2.out
      have HB3 := hid ((Below.refl w2.heap.size w2).alloc (Nat.le_refl _) (.cells #[] 83))
      obtain ⟨⟨q0, q1⟩, q2, q3⟩ := g_boxT (u_blk_below HP2.out HB3.out)
      have HO3 := hid (u_own_new w2 83 2)
      have HU3 := hid ((HRU.out.below HB2.out).below HB3.out)
      go_wp2_with (at_builtin; refine u_wpL_own _ rfl _ _ _ rfl 83 i0 _ 2 24 Tryz.underlying25 HI.out.1 HI.out.2.1 HI.out.2.2.1 HI.out.2.2.2 rfl (by decide) w2.heap.size w2.heap.size 0 0 k [] (roC (l.take k)) _ rfl rfl HO3.out HU3.out (roC_one _) (by omega) (by omega) HB3.out.size k (by omega) (roC (l.take k)) rfl ?_)
      intro g4 c4 w4 ho4 hb4
      have HB4 := hid (HB3.out.trans hb4)
      have HO4 := hid ho4
      clear ho4 hb4 hup HO3 HU3 p0 p1 p2 p3 q0 q1 q2 q3
      have HB5 := hid ((Below.refl w4.heap.size w4).alloc (Nat.le_refl _) (.cells #[.string id, .int .i64 til] 83))
      have HO5 := hid (ownsRow_below HO4.out HB5.out)
      have HN5 := hid (u_Rd.new w4 83 2 (roC [⟨id, til⟩]) 1 rfl)
      go_wp2_with (at_builtin; refine u_wpL_own _ rfl _ _ _ rfl 83 i0 _ 2 24 Tryz.underlying25 HI.out.1 HI.out.2.1 HI.out.2.2.1 HI.out.2.2.2 rfl (by decide) w2.heap.size g4 c4 k 1 (roC (l.take k)) (roC [⟨id, til⟩]) _ rfl rfl HO5.out HN5.out (roC_one _) (by omega) (by omega) (Nat.le_trans HB4.out.size HB5.out.size) (k + 1) rfl (roC (l.take k ++ [⟨id, til⟩])) (by rw [roC_app]) ?_)
      intro g6 c6 w6 ho6 hb6
      have HB6 := hid ((HB4.out.trans (HB5.out.mono HB4.out.size)).trans hb6)
      have HO6 := hid ho6
      have HR6 := hid (HRS.out.below HB6.out)
      clear ho6 hb6 HO5 HN5 HO4
      go_wp2_with (at_builtin; refine u_wpL_own _ rfl _ _ _ rfl 83 i0 _ 2 24 Tryz.underlying25 HI.out.1 HI.out.2.1 HI.out.2.2.1 HI.out.2.2.2 rfl (by decide) w2.heap.size g6 c6 (k + 1) (n - k) (roC (l.take k ++ [⟨id, til⟩])) (roC (l.drop k)) _ rfl rfl HO6.out HR6.out (roC_one _) (by omega) (by omega) HB6.out.size (n + 1) (by omega) (roC (insR l k ⟨id, til⟩)) (by rw [← roC_app, List.append_assoc]; rfl) ?_)
      intro g8 c8 w8 ho8 hb8
      have HB8 := hid (HB2.out.trans ((HB6.out.trans hb8).mono HB2.out.size))
      have HP8 := hid (u_blk_below HPd.out HB8.out)
      have HGe := hid (show wd.heap.size ≤ g8 from Nat.le_trans HB2.out.size (ho8.lt _ rfl).1)
      have HO8 := hid ho8
      clear ho8 hb8
      obtain ⟨⟨p0, p1⟩, p2, p3⟩ := g_boxT HP8.out
      have HLN := hid (show (insR l k ⟨id, til⟩).length = n + 1 by rw [insR_len _ _ _ (by rw [HN.out]; exact hkn), HN.out])
      go_wp2_with fail
      go_ret
      have hPl : P < wd.heap.size := lt_of_heap HPd.out
      have hne : (Value.slice (some ⟨g8, 0, none⟩) (n + 1) c8).ownBlock ≠ some P := fun e => by
        have h1 := HGe.out
        have h2 : g8 = P := Option.some.inj e
        omega
      refine ⟨g8, c8, by rw [HE.out]; rfl, ?_, ?_, ?_, .inr (Nat.le_trans HBd.out.size HGe.out)⟩
      · rw [HE.out]
        simp only [HLN.out]
        have := u_heap_set (i := 5) HP8.out (.slice (some ⟨g8, 0, none⟩) (n + 1) c8)
        simpa using this
      · rw [HE.out]
        unfold RoOwn
        simp only [HLN.out]
        refine u_own_set (u_own_base HO8.out ?_) hne _ _
        have h1 := HBd.out.size
        have h2 := HB2.out.size
        have h3 := HBB.out
        omega
      · refine (u_KeepB.of_below _ HBd.out).trans ((u_KeepB.of_below _ HB8.out).trans ?_)
        exact u_KeepB.of_set _ _ _ rfl

end Go.Proofs.YtgdfeicojgnoaaaGreatDoor
