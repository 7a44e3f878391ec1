/- Contracts of the draw of a list of texts, and of a number picked by the law. -/
import Derived.Test.YtidkbpcceoocaaaDoorHDrawH
import Derived.Test.YtidkbpcceoocaaaDoorHStamp
namespace Go.Proofs.YtidkbpcceoocaaaDoor
open Go.RowKit
set_option linter.unusedVariables false
set_option linter.unusedSimpArgs false

/-- The bytes that a draw is made of, each from 0 to 255. -/
def CodeB (w : World) (a : Option Addr) (len : Nat) : Prop :=
  len = 0 ∨ ∃ cb co, ∃ z : Nat → Int, a = some ⟨cb, co, none⟩ ∧ cb < w.heap.size ∧ ∀ j, j < len → w.cell? ⟨cb, co + j, none⟩ = some (.int .u8 (z j)) ∧ 0 ≤ z j ∧ z j ≤ 255

theorem CodeB.row {w : World} {a : Option Addr} {len : Nat} (h : CodeB w a len) : CodeRow w a len := by
  rcases h with h | ⟨cb, co, z, h1, h2, h3⟩
  · exact .inl h
  · exact .inr ⟨cb, co, z, h1, h2, fun j hj => (h3 j hj).1⟩

theorem CodeB.below {w w2 : World} {a : Option Addr} {len : Nat} (h : CodeB w a len) (hb : Below w.heap.size w w2) : CodeB w2 a len := by
  rcases h with h | ⟨cb, co, z, h1, h2, h3⟩
  · exact .inl h
  · exact .inr ⟨cb, co, z, h1, Nat.lt_of_lt_of_le h2 hb.size, fun j hj => ⟨(hb.cell (p := ⟨cb, co + j, none⟩) h2).trans (h3 j hj).1, (h3 j hj).2⟩⟩

theorem codeB_of {w : World} {a : Option Addr} {len cap : Nat} {zs : List Int}
    (h : (a = none ∧ len = 0 ∧ cap = 0 ∧ zs = []) ∨ ∃ x, a = some x ∧ len ≤ cap ∧ cap ≤ maxLen ∧ zs.length = cap ∧ (∀ i, i < zs.length → w.cell? (x.add i) = some (.int .u8 (zs.getD i 0))) ∧ ∀ n ∈ zs, (Lit.int .u8 n).wf = true) : CodeB w a len := by
  rcases h with ⟨_, h, _⟩ | ⟨x, rfl, hl, _, hz, hc, hwf⟩
  · exact .inl h
  · by_cases h0 : len = 0
    · exact .inl h0
    · obtain ⟨cb, co, rfl, hcells⟩ := ints_at hc (by omega)
      refine .inr ⟨cb, co, fun j => zs.getD j 0, rfl, ?_, fun j hj => ⟨hcells j (by omega), ?_⟩⟩
      · have h1 := hcells 0 (by omega)
        rcases Nat.lt_or_ge cb w.heap.size with h' | h'
        · exact h'
        · simp [World.cell?, Array.getElem?_eq_none h'] at h1
      · have h1 : zs.getD j 0 ∈ zs := by
          rw [List.getD, List.getElem?_eq_getElem (by omega)]
          exact List.getElem_mem _
        have := hwf _ h1
        simp only [Lit.wf, Bool.and_eq_true, decide_eq_true_eq] at this
        have h2 : IntKind.u8.min = 0 := rfl
        have h3 : IntKind.u8.max = 255 := rfl
        rw [h2, h3] at this
        exact this

set_option maxHeartbeats 2000000 in
theorem cPick (s m : Nat) (a : Option Addr) (len cap : Nat) (w : World) (hs : s ≤ 10) (hm0 : 1 ≤ m) (hm1 : m ≤ 256) (hlen : len ≤ 4096) (hcr : CodeB w a len) :
    Calls Tryd.prog 19 #[.slice a len cap, .int .i64 s, .int .i64 m] w fun e w' => ∃ x : Nat, e = .returned (.int .i64 x) ∧ x < m ∧ w' = w := by
  have HR := hide hcr
  clear hcr
  have hmz : ¬ (m : Int) = 0 := by omega
  go_enter Tryd.func19, Tryd.ntmps19
  go_wp2
  go_loop [7, 8] (fun k i => ∃ (j : Nat) (x : Int), i = .int .i64 (j : Int) ∧ j ≤ len ∧ k = .int .i64 x ∧ 0 ≤ x ∧ x < 1000003) (fun _ i => len - (intOf i).toNat)
  case atStart => exact ⟨0, _, rfl, Nat.zero_le _, rfl, by omega, by omega⟩
  case round =>
    obtain ⟨j, x, rfl, hj, rfl, h0, h1⟩ := hrel
    by_cases hlt : j < len
    · obtain ⟨cb, co, z, rfl, hcb, hz⟩ : ∃ cb co, ∃ z : Nat → Int, a = some ⟨cb, co, none⟩ ∧ cb < w.heap.size ∧ ∀ j, j < len → w.cell? ⟨cb, co + j, none⟩ = some (.int .u8 (z j)) ∧ 0 ≤ z j ∧ z j ≤ 255 := by
        rcases HR.out with h | h
        · omega
        · exact h
      obtain ⟨hcell, hz0, hz1⟩ := hz j hlt
      clear hz
      generalize z j = Z at *
      go_wp2_with fail
      go_round
      case rel => exact ⟨j + 1, (x * 233 + Z + (s : Int)) % 1000003, by go_num, by omega, rfl, by omega, by omega⟩
      case measure => simp [intOf]; omega
    · go_wp2_with fail
      go_ret
      have e : x % (m : Int) = ((x.toNat % m : Nat) : Int) := by
        have : x = (x.toNat : Int) := by omega
        rw [this]; simp
      exact ⟨x.toNat % m, by rw [← e]; rfl, Nat.mod_lt _ (by omega), rfl⟩

theorem infoS : (Tryd.prog.info? 9).map (fun i => (i.zero, i.size, i.bytes)) = some (some (.string ⟨#[]⟩), 1, 16) := by kernel_rfl

theorem strs_one (l : List ByteArray) : ∀ u ∈ l.map Value.string, u.oneCell' = true := by
  intro u hu
  obtain ⟨b, _, rfl⟩ := List.mem_map.1 hu
  rfl

/-- append of texts that lie in a block of their own. -/
theorem wpL_appS (w : World) {ops : Array Oper} {rest : List Oper} {o : Oper} {a : Act} {Q : Exit → Act → World → Prop} (hgd : o.guard = none) (s x : Operand)
    (ho : o.op = .call { callee := .builtin .append, args := #[s, x], argTypes := #[25, 25] }) (base : Nat) (v : Value) (n : Nat) (xs : List Value) (hs : a.eval s = v) (hown : w.ownsRow base 9 1 v n xs)
    (B m : Nat) (l : List ByteArray) (hl : l.length = m) (hx : a.eval x = .slice (some ⟨B, 0, none⟩) m m) (hB : w.heap[B]? = some (.cells (l.map Value.string).toArray 9 (0, 0))) (hn : n + m ≤ 1048576) (hb : base ≤ w.heap.size)
    (h : ∀ v' w', w'.ownsRow base 9 1 v' (n + m) (xs ++ l.map Value.string) → w.grownBy w' v.ownBlock → wpList Tryd.prog ops Q rest (a.put o.dst v') w') : wpList Tryd.prog ops Q (o :: rest) a w := by
  obtain ⟨i0, hi, hz0, hz1, hz2⟩ := info_parts infoS
  refine wpList_append_own_at w hgd s x 25 ho base 9 i0 _ 1 16 Tryd.underlying25 hi hz0 hz1 hz2 rfl (by decide) v n xs hs hown ⟨B, 0, none⟩ m m (l.map Value.string) hx (by simp [hl]) (fun j u hj => ?_) (strs_one l) (by unfold maxLen; omega) (by omega) hb (fun v' w' h1 h2 _ _ => h v' w' h1 h2)
  rw [Go.WideShapes.add_plain, Lib.cell_of_heap hB]
  simpa using hj

theorem curNe {w0 : World} {a : Option Addr} {len cap b : Nat} {w : World} (h : Cur w0 a len cap b w) {B : Nat} {v : Value} {n : Nat} {xs : List Value} (ho : w.ownsRow B 9 1 v n xs) : v.ownBlock ≠ some b := by
  obtain ⟨hb, h2, i, x, h0, h1, hh⟩ := h
  exact Lib.ownBlock_ne (T := 59) ho hh (by decide)

theorem convB (W : World) (l : List UInt8) (n : Nat) (hn : l.length = n) (hm : n ≤ 100) : (convert 22 9 (.slice (some ⟨W.heap.size, 0, none⟩) n n)).run Tryd.prog (W.alloc (.cells (Lib.byteCells l).toArray 5)) = .ok (.string ⟨l.toArray⟩) (W.alloc (.cells (Lib.byteCells l).toArray 5)) := by
  subst hn
  have hown : (W.alloc (.cells (Lib.byteCells l).toArray 5)).ownsRow 0 5 1 (.slice (some ⟨W.heap.size, 0, none⟩) l.length l.length) l.length (Lib.byteCells l) :=
    ⟨by simp [Lib.byteCells_length], .inr ⟨W.heap.size, l.length, _, rfl, Nat.zero_le _, heap_alloc_new W _, Nat.le_refl _, by unfold maxLen; omega, by simp [Lib.byteCells_length], by simp; exact List.take_of_length_le (by rw [Lib.byteCells_length]; exact Nat.le_refl _)⟩⟩
  exact run_str_own (P := Tryd.prog) (src := 22) (dst := 9) Tryd.underlying22 Tryd.underlying5 Tryd.underlying9 hown

def three : List ByteArray := [⟨#[40, 3, 29, 115]⟩, ⟨#[122, 122]⟩, ⟨#[3, 95, 3, 3]⟩]

theorem conv40 (W : World) : (convert 22 9 (.slice (some ⟨W.heap.size, 0, none⟩) 4 4)).run Tryd.prog (W.alloc (.cells #[.int .u8 40, .int .u8 3, .int .u8 29, .int .u8 115] 5)) = .ok (.string ⟨#[40, 3, 29, 115]⟩) (W.alloc (.cells #[.int .u8 40, .int .u8 3, .int .u8 29, .int .u8 115] 5)) :=
  convB W [40, 3, 29, 115] 4 rfl (by decide)

theorem conv3 (W : World) (o : Obj) : (convert 22 9 (.slice (some ⟨W.heap.size + 1, 0, none⟩) 4 4)).run Tryd.prog ((W.alloc o).alloc (.cells #[.int .u8 3, .int .u8 95, .int .u8 3, .int .u8 3] 5)) = .ok (.string ⟨#[3, 95, 3, 3]⟩) ((W.alloc o).alloc (.cells #[.int .u8 3, .int .u8 95, .int .u8 3, .int .u8 3] 5)) := by
  have := convB (W.alloc o) [3, 95, 3, 3] 4 rfl (by decide)
  rw [World.size_alloc] at this
  exact this

theorem heap_at3 (w : World) (o p q : Obj) : (((w.alloc o).alloc p).alloc q).heap[w.heap.size + 1 + 1]? = some q := by
  have := heap_alloc_new ((w.alloc o).alloc p) q
  rw [World.size_alloc, World.size_alloc] at this
  exact this

theorem strAt_own {w : World} {B : Nat} {v : Value} {ss : List ByteArray} (h : w.ownsRow B 9 1 v ss.length (ss.map Value.string)) : ∃ A cp, v = .slice A ss.length cp ∧ StrAt w A ss := by
  rcases h.2 with ⟨rfl, h0⟩ | ⟨g, cp, cur, rfl, hgb, hh, _⟩
  · rw [h0]
    exact ⟨none, 0, rfl, fun j hj => by omega⟩
  · refine ⟨some ⟨g, 0, none⟩, cp, rfl, fun j hj => ⟨g, 0, rfl, lt_of_heap hh, ?_⟩⟩
    have := h.cells (g := g) rfl j (.string ss[j]) (by simp [hj])
    rw [Go.WideShapes.add_plain] at this
    exact this

set_option maxHeartbeats 2000000 in
set_option maxRecDepth 8000 in
theorem cDClash (a : Option Addr) (len cap : Nat) (w : World) (hlen : len ≤ 4096) (hcr : CodeRow w a len) :
    Calls Tryd.prog 8 #[.slice a len cap] w fun e w' => ∃ A cp, ∃ ss : List ByteArray, e = .returned (.slice A ss.length cp) ∧ StrAt w' A ss ∧ ss.length ≤ 10 ∧ (∀ s ∈ ss, s.size ≤ 10) ∧ Below w.heap.size w w' := by
  have HR := hide hcr
  clear hcr
  go_enter Tryd.func8, Tryd.ntmps8
  go_wp2_with fail
  refine (cNew a len cap w hlen HR.out).mono ?_
  rintro e w1 ⟨rfl, hC1⟩
  have HC1 := hide (hC1.alloc (.cells #[] 9))
  have HO1 := hide (World.ownsRow_made (base := w.heap.size + 1) (e := 9) (size := 1) w1 #[] 0 (by have := hC1.lt; omega) (by decide) rfl)
  clear hC1
  go_wp2_with fail
  refine (cBelow 5 w a len cap _ _ hlen HR.out HC1.out (by decide) (by decide)).mono ?_
  rintro e w2 ⟨x, rfl, hx, hC2, hG2⟩
  have HO2 := hide (HO1.out.kept hG2 (.inr (curNe HC1.out HO1.out)))
  have HC2 := hide hC2
  clear hC2 hG2 HC1 HO1
  go_wp2_with fail
  go_loopw [4, 5] (fun v k wr => ∃ (m : Nat) (ss : List ByteArray), k = .int .i64 (m : Int) ∧ m + ss.length ≤ 5 ∧ (∀ s ∈ ss, s.size ≤ 10) ∧ Cur w a len cap w.heap.size wr ∧ wr.ownsRow (w.heap.size + 1) 9 1 v ss.length (ss.map Value.string)) (fun _ k _ => (intOf k).toNat)
  case atStart => exact ⟨x, [], rfl, by simp; omega, fun s hs => by simp at hs, HC2.out, HO2.out⟩
  case round =>
    clear HC2 HO2
    obtain ⟨m, ss, rfl, hm, hz, hC, hO⟩ := hrel
    have HZ := hide hz
    have HC := hide hC
    have HO := hide hO
    clear hz hC hO
    by_cases hgo : 0 < m
    · go_wp2_with fail
      refine (cText _ 4 w a len cap _ _ (by decide) (by decide) (by decide) (by decide) hlen HR.out HC.out).mono ?_
      rintro e w3 ⟨t, rfl, ht, hC3, hG3⟩
      have HC3 := hide hC3
      have HO3 := hide (HO.out.kept hG3 (.inr (curNe HC.out HO.out)))
      have hlt := hC3.lt
      clear hC3 hG3 HC HO
      go_wp2_with (at_builtin; refine wpL_appS _ rfl _ _ rfl (w.heap.size + 1) u4 ss.length _ rfl (HO3.out.alloc _) _ 1 [t] rfl rfl (heap_alloc_new _ _) (by omega) (by simp; omega) ?_; intro v' w' ho' hg')
      have HCn := hide ((HC3.out.alloc (.cells #[.string t] 9)).grown hg' (fun e => curNe (HC3.out.alloc (.cells #[.string t] 9)) (HO3.out.alloc (.cells #[.string t] 9)) e.symm) (fun k e => by have := (HO3.out.lt k e).1; omega))
      go_roundw
      case rel => exact ⟨m - 1, ss ++ [t], by go_num, by simp; omega, fun s hs => by
        rcases List.mem_append.1 hs with h | h
        · exact HZ.out s h
        · rw [List.mem_singleton] at h
          subst h
          omega, HCn.out, by
        rw [List.length_append, List.map_append]
        exact ho'⟩
      case measure => simp [intOf]; omega
    · go_wp2_with fail
      refine (cOnce 3 w a len cap _ _ hlen HR.out HC.out (by decide) (by decide)).mono ?_
      rintro e w3 ⟨q, rfl, hC3, hG3⟩
      have HC3 := hide hC3
      have HO3 := hide (HO.out.kept hG3 (.inr (curNe HC.out HO.out)))
      have hlt := hC3.lt
      clear hC3 hG3 HC HO
      cases q with
      | false =>
        obtain ⟨A, cp, rfl, hst⟩ := strAt_own HO3.out
        have HST := hide hst
        clear hst
        go_wp2_with fail
        go_ret
        exact ⟨A, cp, ss, rfl, HST.out, by omega, HZ.out, HC3.out.2.1⟩
      | true =>
        go_wp2_with fail
        refine upon_run (conv40 w3) ?_
        go_wp2_with fail
        refine upon_run (conv3 w3 _) ?_
        go_wp2_with (at_builtin; refine wpL_appS _ rfl _ _ rfl (w.heap.size + 1) u4 ss.length _ rfl (((HO3.out.alloc _).alloc _).alloc _) _ 3 [⟨#[40, 3, 29, 115]⟩, ⟨#[122, 122]⟩, ⟨#[3, 95, 3, 3]⟩] rfl rfl (heap_at3 _ _ _ _) (by omega) (by simp; omega) ?_; intro v' w' ho' hg')
        have hsz := HC3.out.size
        have hbn : Below w.heap.size w w' := (((HC3.out.2.1.alloc hsz _).alloc (by simp; omega) _).alloc (by simp; omega) _).grown hg' (by simp; omega) (fun k e => by have := (HO3.out.lt k e).1; omega)
        have ho2 : w'.ownsRow (w.heap.size + 1) 9 1 v' (ss ++ three).length ((ss ++ three).map Value.string) := by
          rw [List.length_append, List.map_append]
          exact ho'
        obtain ⟨A, cp, rfl, hst⟩ := strAt_own ho2
        go_ret
        refine ⟨A, cp, _, rfl, hst, by simp [three]; omega, fun s hs => ?_, hbn⟩
        rcases List.mem_append.1 hs with h | h
        · exact HZ.out s h
        · simp only [three, List.mem_cons, List.not_mem_nil, or_false] at h
          rcases h with rfl | rfl | rfl <;> decide

end Go.Proofs.YtidkbpcceoocaaaDoor
