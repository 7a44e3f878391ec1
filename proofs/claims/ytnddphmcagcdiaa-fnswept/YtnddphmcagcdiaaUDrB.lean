/- A table that is being drawn: kept by draws, entered into. -/
import Derived.Test.YtnddphmcagcdiaaUDrA
import Derived.Test.YtnddphmcagcdiaaUSpecC
import Derived.Test.YtnddphmcagcdiaaUNew
namespace Go.Proofs.Ytnddphmcagcdiaa
open Go.RowKit
set_option linter.unusedVariables false
set_option linter.unusedSimpArgs false

/-- In block P lies a table with that most and those rows, the rows in memory from B on. -/
def TbD (w : World) (B P : Nat) (m : Int) (l : List Ro) : Prop := ∃ v, w.heap[P]? = some (.cells #[.int .i64 m, v] 26 (0, 0)) ∧ w.ownsRow B 33 2 v l.length (roC l)

theorem TbD.below {w w' : World} {B P : Nat} {m : Int} {l : List Ro} (h : TbD w B P m l) (hb : Below w.heap.size w w') : TbD w' B P m l := by
  obtain ⟨v, h1, h2⟩ := h
  exact ⟨v, u_blk_below h1 hb, ownsRow_below h2 hb⟩

theorem TbD.draw {w0 w w1 : World} {a : Option Addr} {len cap b B P : Nat} {m : Int} {l : List Ro} (h : TbD w B P m l) (hC : Cur w0 a len cap b w) (hg : w.grownBy w1 (some b)) : TbD w1 B P m l := by
  obtain ⟨v, h1, h2⟩ := h
  obtain ⟨_, _, i, x, _, _, hh⟩ := hC
  have hP : ¬ P = b := fun e => by
    subst e
    rw [h1] at hh
    injection hh with hh
    injection hh with _ ht
    exact absurd ht (by decide)
  refine ⟨v, (hg.block P (lt_of_heap h1) (fun e => hP (Option.some.inj e))).trans h1, ?_⟩
  rcases h2.2 with h3 | ⟨g, cp, cur, rfl, k1, k2, k3⟩
  · exact ⟨h2.1, .inl h3⟩
  · have hgb : ¬ g = b := fun e => by
      subst e
      rw [k2] at hh
      injection hh with hh
      injection hh with _ ht
      exact absurd ht (by decide)
    exact ⟨h2.1, .inr ⟨g, cp, cur, rfl, k1, (hg.block g (lt_of_heap k2) (fun e => hgb (Option.some.inj e))).trans k2, k3⟩⟩

theorem enterT_len (t : Tb) (id : ByteArray) (til : Int) : (enterT t id til).1.rows.length ≤ t.rows.length + 1 := by
  unfold enterT
  split
  · exact Nat.le_succ _
  · split
    · exact Nat.le_succ _
    · exact Nat.le_of_eq (insR_len _ _ _ (findR_le _ _))

theorem enterT_sz {t : Tb} {id : ByteArray} {til : Int} {z : Nat} (hz : RoSz z t.rows) (hi : id.size ≤ z) : RoSz z (enterT t id til).1.rows := by
  unfold enterT
  split
  · exact hz
  · split
    · exact hz
    · intro x hx
      have hx' : x ∈ insR t.rows (findR t.rows id) ⟨id, til⟩ := hx
      unfold insR at hx'
      rcases List.mem_append.1 hx' with h1 | h1
      · exact hz x (List.mem_of_mem_take h1)
      · rcases List.mem_cons.1 h1 with h2 | h2
        · subst h2; exact hi
        · exact hz x (List.mem_of_mem_drop h2)

/-- One more is entered. -/
theorem cEnterD (P B : Nat) (m : Int) (l : List Ro) (id : ByteArray) (til : Int) (w : World) (h : TbD w B P m l) (hn : l.length ≤ 100) (hz : RoSz 10 l) (hi : id.size ≤ 10) (hB : B ≤ w.heap.size) (hm : ¬ (0 : Int) = m) :
    Calls Try.prog 42 #[.pointer (some ⟨P, 0, none⟩), .string id, .int .i64 til] w fun e w' => ∃ (x : Int) (l' : List Ro), e = .returned (.int .i64 x) ∧ TbD w' B P m l' ∧ l'.length ≤ l.length + 1 ∧ RoSz 10 l' ∧ u_KeepB (fun b => b = P) w w' := by
  obtain ⟨v, h1, h2⟩ := h
  rcases h2.2 with ⟨rfl, h3⟩ | ⟨g, cp, cur, rfl, k1, k2, k3⟩
  · obtain rfl : l = [] := List.length_eq_zero_iff.1 h3
    refine (cEnterNil P B m id til w h1 (Nat.le_trans hi (by decide)) hB hm).mono ?_
    rintro e w' ⟨g', c', rfl, hP, hO, hk⟩
    exact ⟨0, [⟨id, til⟩], rfl, ⟨_, hP, hO⟩, Nat.le_refl _, fun x hx => by rw [List.mem_singleton.1 hx]; exact hi, hk⟩
  · refine (cEnterS P B g cp m l id til w h1 h2 (Nat.le_trans hn (by decide)) (hz.mono (by decide)) (Nat.le_trans hi (by decide)) hB).mono ?_
    rintro e w' ⟨g', c', rfl, hP, hO, hk⟩
    have hm2 := enterT_most ⟨m, l⟩ id til
    refine ⟨_, (enterT ⟨m, l⟩ id til).1.rows, rfl, ⟨_, ?_, hO⟩, enterT_len ⟨m, l⟩ id til, enterT_sz (t := ⟨m, l⟩) hz hi, hk⟩
    rw [hm2] at hP
    exact hP

/-- What stays of the cursor and the world where block P is written. -/
theorem Cur.keepU {w0 : World} {a : Option Addr} {len cap b : Nat} {w w1 : World} {P : Nat} (h : Cur w0 a len cap b w) (hk : u_KeepB (fun k => k = P) w w1) (hP : ¬ b = P) (h0 : w0.heap.size ≤ P) : Cur w0 a len cap b w1 :=
  h.grown (row := some P) ⟨hk.os, hk.tape, hk.output, hk.size, fun k hk1 hk2 => hk.block k hk1 (fun e => hk2 (by rw [e]))⟩ (fun e => hP (Option.some.inj e)) (fun k e => by cases e; exact h0)

theorem gr_keep {w wr w' : World} {b P : Nat} (h : w.grownBy wr (some b)) (hk : u_KeepB (fun k => k = P) wr w') (hP : w.heap.size ≤ P) : w.grownBy w' (some b) :=
  ⟨hk.os.trans h.os, hk.tape.trans h.tape, hk.output.trans h.output, Nat.le_trans h.size hk.size, fun i hi hr => (hk.block i (Nat.lt_of_lt_of_le hi h.size) (fun e => by omega)).trans (h.block i hi hr)⟩

theorem gr_setU {w wr : World} {b P : Nat} (h : w.grownBy wr (some b)) (hP : w.heap.size ≤ P) (o : Nat) (v : Value) : w.grownBy (wr.setCell ⟨P, o, none⟩ v) (some b) := gr_keep h (u_KeepB.of_set _ _ _ rfl) hP

theorem Cur.tableNe {w0 : World} {a : Option Addr} {len cap b : Nat} {w : World} (h : Cur w0 a len cap b w) {P : Nat} {cs : Array Value} (hP : w.heap[P]? = some (.cells cs 26 (0, 0))) : ¬ b = P := fun e => by
  subst e
  obtain ⟨_, _, i, x, _, _, hh⟩ := h
  rw [hP] at hh
  injection hh with hh
  injection hh with _ ht
  exact absurd ht (by decide)

theorem blk_draw {w w1 : World} {b P : Nat} {o : Obj} (h : w.heap[P]? = some o) (hg : w.grownBy w1 (some b)) (hne : ¬ b = P) : w1.heap[P]? = some o :=
  (hg.block P (lt_of_heap h) (fun e => hne (Option.some.inj e).symm)).trans h

end Go.Proofs.Ytnddphmcagcdiaa
