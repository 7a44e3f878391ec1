/- l16Enter at a table that has no rows yet; what a table that is being drawn is. -/
import Derived.Test.YtnddphmcagcdiaaUSpecB
import Derived.Test.YtnddphmcagcdiaaDraw
import Derived.Test.YtnddphmcagcdiaaTextBoth
import Derived.Test.YtnddphmcagcdiaaHDraw
namespace Go.Proofs.Ytnddphmcagcdiaa
open Go.RowKit
set_option linter.unusedVariables false
set_option linter.unusedSimpArgs false

/-- append of nothing to a row of one's own. -/
theorem u_run_none {P : Program} (W : World) (t ty e : TypeId) (i : TypeInfo) (h1 : P.underlying t = some (.slice e)) (h2 : P.info? e = some i) (b : Option Addr) (n c cx : Nat) (hle : n ≤ c) :
    (Builtin.append_ #[t, t] ty #[.slice b n c, .slice none 0 cx]).run P W = .ok (.slice b n c) W :=
  run_append_nothing (P := P) W t t ty e i h1 h2 b n c hle _ (Src.ofNil W h1 cx)

theorem u_wpL_app {P : Program} (w : World) {ops : Array Oper} {rest : List Oper} {o : Oper} {a : Act} {Q : Exit → Act → World → Prop} (hgd : o.guard = none) (d s : Operand) (t t' : TypeId)
    (ho : o.op = .call { callee := .builtin .append, args := #[d, s], argTypes := #[t, t'] }) (v u : Value) (hd : a.eval d = v) (hs : a.eval s = u) {v' : Value} {w' : World}
    (hr : (Builtin.append_ #[t, t'] o.type #[v, u]).run P w = .ok v' w') (h : wpList P ops Q rest (a.put o.dst v') w') : wpList P ops Q (o :: rest) a w := by
  refine wpList_plain hgd fun K hK => ?_
  unfold Oper.wp execOp
  simp only [ho, resolve, invoke, builtin, Sem.run_bind, Sem.run_pure, Result.andThen_ok, List.map_toArray, List.map_cons, List.map_nil, hd, hs, hr]
  exact hK _ _ h

theorem u_stopW {p : Prop} (h : Hid p) : p := h
theorem u_stopX {p : Prop} (h : p) : Hid p := h

theorem findR_nil (id : ByteArray) : findR [] id = 0 := rfl
theorem isR_nil (id : ByteArray) : isR [] id = false := isR_len rfl

set_option maxRecDepth 8000 in
set_option maxHeartbeats 8000000 in
theorem cEnterNil (P B : Nat) (m : Int) (id : ByteArray) (til : Int) (w : World) (hP : w.heap[P]? = some (.cells #[.int .i64 m, .slice none 0 0] 26 (0, 0))) (hi : id.size ≤ 1048576) (hB : B ≤ w.heap.size) (hm : ¬ (0 : Int) = m) :
    Calls Try.prog 42 #[.pointer (some ⟨P, 0, none⟩), .string id, .int .i64 til] w (EnterPost P B (⟨m, [⟨id, til⟩]⟩, 0) w) := by
  have CF := hid (cFindS ⟨m, []⟩ none 0 id w (RoRow.nil _ _) (fun x hx => (List.not_mem_nil hx).elim) (Nat.zero_le _) hi)
  unfold tbV at CF
  simp only [findR_nil, isR_nil, List.length_nil] at CF
  have HP := hid hP
  have HBB := hid hB
  obtain ⟨⟨x0, x1⟩, x2, x3⟩ := u_box2f HP.out
  have hqb : ((0 : Int) == m) = false := by simpa using hm
  clear hP hB
  obtain ⟨i0, hi0, hz0, hz1, hz2⟩ := info_parts infoRoW
  have HI := hid (And.intro hi0 (And.intro hz0 (And.intro hz1 hz2)))
  have HNo := hid (fun (W : World) ty b n c => u_run_none (P := Try.prog) W 24 ty 33 i0 Try.underlying24 hi0 b n c 0)
  clear hi0 hz0 hz1 hz2
  go_enter Try.func42, Try.ntmps42
  go_wp2_with fail
  refine CF.out.mono ?_
  rintro e w1 ⟨rfl, hb1⟩
  have HB1 := hid hb1
  have HP1 := hid (u_blk_below HP.out hb1)
  clear hb1 CF x0 x1 x2 x3
  obtain ⟨⟨x0, x1⟩, x2, x3⟩ := u_box2f HP1.out
  go_wp2_with fail
  go_quiet (fail)
  generalize hwd : w1.drewN _ = wd
  have HBd := hid (show Below w.heap.size w wd by rw [← hwd]; exact below_drewN HB1.out _)
  have HPd := hid (show wd.heap[P]? = some (.cells #[.int .i64 m, .slice none 0 0] 26 (0, 0)) by rw [← hwd]; exact HP1.out)
  clear hwd x0 x1 x2 x3 HP1 HB1
  obtain ⟨⟨x0, x1⟩, x2, x3⟩ := u_box2f HPd.out
  have HB1 := hid ((Below.refl wd.heap.size wd).alloc (Nat.le_refl _) (.cells #[] 33))
  obtain ⟨⟨p0, p1⟩, p2, p3⟩ := u_box2f (u_blk_below HPd.out HB1.out)
  have HB2 := hid (HB1.out.alloc HB1.out.size (.cells #[] 33))
  obtain ⟨⟨q0, q1⟩, q2, q3⟩ := u_box2f (u_blk_below HPd.out HB2.out)
  have HO2 := hid (u_own_new (wd.alloc (.cells #[] 33)) 33 2)
  have HO3 := hid (HO2.out.alloc (.cells #[.string id, .int .i64 til] 33))
  have HN3 := hid (u_Rd.new ((wd.alloc (.cells #[] 33)).alloc (.cells #[] 33)) 33 2 (roC [⟨id, til⟩]) 1 rfl)
  have HB3 := hid (HB2.out.alloc HB2.out.size (.cells #[.string id, .int .i64 til] 33))
  have hsz : (wd.alloc (.cells #[] 33)).heap.size = wd.heap.size + 1 := World.size_alloc _ _
  have hsz2 : ((wd.alloc (.cells #[] 33)).alloc (.cells #[] 33)).heap.size = wd.heap.size + 1 + 1 := by rw [World.size_alloc, hsz]
  rw [hsz] at HO2 HO3
  rw [hsz2] at HN3
  clear hsz hsz2
  go_wp2_with (at_builtin; refine u_stopW ?_)
  refine u_stopX ?_
  refine u_wpL_app _ rfl _ _ _ _ rfl (.slice (some ⟨wd.heap.size, 0, none⟩) 0 0) (.slice none 0 0) rfl rfl (HNo.out _ _ _ _ _ (Nat.le_refl _)) ?_
  go_wp2_with (at_builtin; refine u_stopW ?_)
  refine u_stopX ?_
  refine u_wpL_app _ rfl _ _ _ _ rfl (.slice (some ⟨wd.heap.size + 1, 0, none⟩) 0 0) (.slice none 0 0) rfl rfl (HNo.out _ _ _ _ _ (Nat.le_refl _)) ?_
  go_wp2_with (at_builtin; refine u_stopW ?_)
  refine u_stopX ?_
  refine u_wpL_own _ rfl _ _ _ rfl 33 i0 _ 2 24 Try.underlying24 HI.out.1 HI.out.2.1 HI.out.2.2.1 HI.out.2.2.2 rfl (by decide) (wd.heap.size + 1) (wd.heap.size + 1) 0 0 1 [] (roC [⟨id, til⟩]) _ rfl rfl HO3.out HN3.out (roC_one _) (by omega) (by omega) (by simp only [World.size_alloc]; omega) 1 rfl (roC [⟨id, til⟩]) rfl ?_
  intro g6 c6 w6 ho6 hb6
  have HB6 := hid (HB3.out.trans (hb6.mono (Nat.le_succ _)))
  have HO6 := hid ho6
  have HR6 := hid (show u_Rd w6 2 (.slice (some ⟨wd.heap.size, 0, none⟩) 0 0) 0 [] from ⟨⟨_, 0, 0, rfl, by have h1 := hb6.size; simp at h1; omega, Nat.le_refl _, fun j u hj => by simp at hj⟩, rfl⟩)
  clear ho6 hb6 HO2 HO3 HN3 p0 p1 p2 p3 q0 q1 q2 q3
  go_wp2_with (at_builtin; refine u_wpL_own _ rfl _ _ _ rfl 33 i0 _ 2 24 Try.underlying24 HI.out.1 HI.out.2.1 HI.out.2.2.1 HI.out.2.2.2 rfl (by decide) (wd.heap.size + 1) g6 c6 1 0 (roC [⟨id, til⟩]) [] _ rfl rfl HO6.out HR6.out (fun u hu => by simp at hu) (by omega) (by omega) (by have := (HO6.out.lt g6 rfl); omega) 1 rfl (roC [⟨id, til⟩]) rfl ?_)
  intro g8 c8 w8 ho8 hb8
  have HB8 := hid (HB6.out.trans (hb8.mono (Nat.le_succ _)))
  have HP8 := hid (u_blk_below HPd.out HB8.out)
  have HGe := hid (show wd.heap.size < g8 from (ho8.lt _ rfl).1)
  have HO8 := hid ho8
  clear ho8 hb8
  obtain ⟨⟨p0, p1⟩, p2, p3⟩ := u_box2f HP8.out
  go_wp2_with fail
  go_ret
  have hPl : P < wd.heap.size := lt_of_heap HPd.out
  have hne : (Value.slice (some ⟨g8, 0, none⟩) 1 c8).ownBlock ≠ some P := fun e => by
    have h1 := HGe.out
    have h2 : g8 = P := Option.some.inj e
    omega
  refine ⟨g8, c8, rfl, ?_, ?_, ?_⟩
  · have := u_heap_set (i := 1) HP8.out (.slice (some ⟨g8, 0, none⟩) 1 c8)
    simpa using this
  · unfold RoOwn
    refine u_own_set (u_own_base HO8.out ?_) hne _ _
    have h1 := HBd.out.size
    have h3 := HBB.out
    omega
  · exact (u_KeepB.of_below _ HBd.out).trans ((u_KeepB.of_below _ HB8.out).trans (u_KeepB.of_set _ _ _ rfl))

end Go.Proofs.Ytnddphmcagcdiaa
