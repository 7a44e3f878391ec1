/- Marks that the exact laws leave in what was answered: a text for a number; marks in a row of attrs, set and held. Marks in a row of attrs: set, and held. A row of tokens: read; owned; two rows compared. -/
import Derived.Test.YtkejmifkjgpdjaaGreatM2
namespace Go.Proofs.YtkejmifkjgpdjaaGreat
open Go.RowKit
set_option linter.unusedVariables false
set_option linter.unusedSimpArgs false

def digB (k : Nat) : UInt8 := UInt8.ofNat (48 + k % 10)

def decB (k : Nat) (out : ByteArray) : ByteArray := if h : k = 0 then out else decB (k / 10) ((⟨#[digB k]⟩ : ByteArray) ++ out)
termination_by k
decreasing_by omega

theorem decB_zero (out : ByteArray) : decB 0 out = out := by unfold decB; simp

theorem decB_step {k : Nat} (h : ¬ k = 0) (out : ByteArray) : decB k out = decB (k / 10) ((⟨#[digB k]⟩ : ByteArray) ++ out) := by rw [decB]; simp [h]

/-- The text of a mark. -/
def markS (k : Nat) : ByteArray := if k = 0 then ⟨#[109, 48]⟩ else (⟨#[109]⟩ : ByteArray) ++ decB k ⟨#[]⟩

theorem decB_size : ∀ (k : Nat) (out : ByteArray), (decB k out).size ≤ k + out.size := by
  intro k
  induction k using Nat.strongRecOn with
  | _ k ih =>
    intro out
    by_cases h : k = 0
    · subst h; rw [decB_zero]; omega
    · rw [decB_step h]
      have := ih (k / 10) (by omega) ((⟨#[digB k]⟩ : ByteArray) ++ out)
      rw [ByteArray.size_append, show (⟨#[digB k]⟩ : ByteArray).size = 1 from rfl] at this
      omega

theorem markS_size (k : Nat) : (markS k).size ≤ k + 2 := by
  unfold markS
  split
  · show 2 ≤ k + 2
    omega
  · rw [ByteArray.size_append, show (⟨#[109]⟩ : ByteArray).size = 1 from rfl]
    have := decB_size k ⟨#[]⟩
    rw [show (⟨#[]⟩ : ByteArray).size = 0 from rfl] at this
    omega

theorem conv1 (W : World) (b : UInt8) : (convert 96 9 (.slice (some ⟨W.heap.size, 0, none⟩) 1 1)).run Tryz.prog (W.alloc (.cells #[.int .u8 b.toNat] 5)) = .ok (.string ⟨#[b]⟩) (W.alloc (.cells #[.int .u8 b.toNat] 5)) := by
  have hown : (W.alloc (.cells #[.int .u8 b.toNat] 5)).ownsRow 0 5 1 (.slice (some ⟨W.heap.size, 0, none⟩) [b].length 1) [b].length (Lib.byteCells [b]) :=
    ⟨rfl, .inr ⟨W.heap.size, 1, #[.int .u8 b.toNat], rfl, Nat.zero_le _, heap_alloc_new W _, Nat.le_refl _, by decide, rfl, rfl⟩⟩
  exact run_str_own (P := Tryz.prog) (src := 96) (dst := 9) Tryz.underlying96 Tryz.underlying5 Tryz.underlying9 hown

theorem dig_wrap (k : Nat) : IntKind.u8.wrap (48 + (k : Int) % 10) = ((digB k).toNat : Int) := by
  have e : (digB k).toNat = 48 + k % 10 := by
    unfold digB
    rw [UInt8.toNat_ofNat']
    omega
  rw [e]
  rw [show (48 : Int) + (k : Int) % 10 = ((48 + k % 10 : Nat) : Int) by omega]
  exact IntWalk.u8_in _ (by omega)

set_option maxRecDepth 100000 in
set_option maxHeartbeats 1000000 in
theorem cMarkText (k : Nat) (hk : k ≤ 1000000000) (w : World) :
    Calls Tryz.prog 28 #[.int .i64 k] w fun e w' => e = .returned (.string (markS k)) ∧ Below w.heap.size w w' := by
  by_cases h0 : k = 0
  · subst h0
    rw [show markS 0 = ⟨#[109, 48]⟩ from rfl]
    go_enter Tryz.func28, Tryz.ntmps28
    go_wp2
    go_ret
    exact ⟨rfl, Below.refl _ _⟩
  · have hd : decide ((k : Int) ≤ 0) = false := by simp; omega
    obtain ⟨V, hV⟩ : ∃ V, markS k = V := ⟨_, rfl⟩
    have HV := hid (show (⟨#[109]⟩ : ByteArray) ++ decB k ⟨#[]⟩ = V by rw [← hV]; unfold markS; rw [if_neg h0])
    rw [hV]
    clear hV
    go_enter Tryz.func28, Tryz.ntmps28
    go_wp2_with fail
    clear hd h0
    go_loopw [0, 3] (fun x y wr => ∃ (m : Nat) (out : ByteArray), x = .int .i64 (m : Int) ∧ m ≤ 1000000000 ∧ y = .string out ∧ out.size + m ≤ 1000000000 ∧ Hid (decB m out = decB k ⟨#[]⟩) ∧ Hid (Below w.heap.size w wr)) (fun x _ _ => (intOf x).toNat)
    case atStart => exact ⟨k, ⟨#[]⟩, rfl, hk, rfl, by show 0 + k ≤ 1000000000; omega, rfl, Below.refl _ _⟩
    case round =>
      obtain ⟨m, out, rfl, hm, rfl, hs, HD, HB⟩ := hrel
      by_cases hz : m = 0
      · subst hz
        have HW := hid (show (⟨#[109]⟩ : ByteArray) ++ out = V by rw [← HV.out, ← HD.out, decB_zero])
        go_wp2_with fail
        go_ret
        exact ⟨by rw [← HW.out]; rfl, HB.out⟩
      · have hp : decide ((0 : Int) < (m : Int)) = true := by simp; omega
        have hd := dig_wrap m
        have hc := conv1 wr (digB m)
        have HN := hid (show decB (m / 10) ((⟨#[digB m]⟩ : ByteArray) ++ out) = decB k ⟨#[]⟩ by rw [← decB_step hz]; exact HD.out)
        have hq : (m : Int).tdiv 10 = ((m / 10 : Nat) : Int) := (Int.ofNat_tdiv m 10).symm
        have hr : (m : Int).tmod 10 = (m : Int) % 10 := Int.tmod_eq_emod_of_nonneg (by omega)
        generalize digB m = D at *
        go_wp2_with fail
        go_roundw
        case rel => exact ⟨m / 10, (⟨#[D]⟩ : ByteArray) ++ out, by first | rfl | rw [← hq] | simp, by omega, rfl, by rw [ByteArray.size_append, show (⟨#[D]⟩ : ByteArray).size = 1 from rfl]; omega, HN.out, HB.out.alloc HB.out.size _⟩
        case measure => simp [intOf]; omega

end Go.Proofs.YtkejmifkjgpdjaaGreat

namespace Go.Proofs.YtkejmifkjgpdjaaGreat
open Go.RowKit
set_option linter.unusedVariables false
set_option linter.unusedSimpArgs false

theorem gr_trans {w w1 w2 : World} {row : Option Nat} (h : w.grownBy w1 row) (k : w1.grownBy w2 row) : w.grownBy w2 row :=
  ⟨k.os.trans h.os, k.tape.trans h.tape, k.output.trans h.output, Nat.le_trans h.size k.size, fun i hi hr => (k.block i (Nat.lt_of_lt_of_le hi h.size) hr).trans (h.block i hi hr)⟩

theorem gr_below {w w1 w2 : World} {row : Option Nat} (h : w.grownBy w1 row) (k : Below w1.heap.size w1 w2) : w.grownBy w2 row :=
  ⟨k.os.trans h.os, k.tape.trans h.tape, k.output.trans h.output, Nat.le_trans h.size k.size, fun i hi hr => (k.block i (Nat.lt_of_lt_of_le hi h.size)).trans (h.block i hi hr)⟩

theorem gr_set {w w1 : World} {b : Nat} (h : w.grownBy w1 (some b)) (j : Nat) (v : Value) : w.grownBy (w1.setCell ⟨b, j, none⟩ v) (some b) := gr_trans h (Lib.grownBy_setCell w1 b j v)

/-- A store into a row of cells. -/
theorem heap_set {w : World} {g i : Nat} {cur : Array Value} {T : TypeId} (h : w.heap[g]? = some (.cells cur T (0, 0))) (v : Value) :
    (w.setCell ⟨g, i, none⟩ v).heap[g]? = some (.cells (cur.setIfInBounds i v) T (0, 0)) := by
  simp [World.setCell, Array.getElem?_modify, h]

theorem cell_there {w : World} {g i : Nat} {cur : Array Value} {T : TypeId} (h : w.heap[g]? = some (.cells cur T (0, 0))) (hi : i < cur.size) : ∃ v, w.cell? ⟨g, i, none⟩ = some v := by
  rw [Lib.cell_of_heap h]
  exact ⟨cur[i], Array.getElem?_eq_getElem hi⟩

/-- The first n attrs from o on bear the marks from k on. -/
def MarksA (cur : Array Value) (o n k : Nat) : Prop := ∀ j, j < n → cur[o + j * 2]? = some (.string (markS (k + 2 * j))) ∧ cur[o + j * 2 + 1]? = some (.string (markS (k + 2 * j + 1)))

theorem cMarkAttr0 (a : Option Addr) (cap k : Nat) (w : World) :
    Calls Tryz.prog 29 #[.slice a 0 cap, .int .i64 k] w fun e w' => e = .returned (.int .i64 k) ∧ w' = w := by
  go_enter Tryz.func29, Tryz.ntmps29
  go_wp2
  go_loop [1, 5] (fun x j => x = .int .i64 (k : Int) ∧ j = .int .i64 0) (fun _ _ => 0)
  case atStart => exact ⟨rfl, rfl⟩
  case round =>
    obtain ⟨rfl, rfl⟩ := hrel
    go_wp2
    go_ret
    exact ⟨rfl, rfl⟩

set_option maxRecDepth 8000 in
set_option maxHeartbeats 2000000 in
theorem cMarkAttrS (g o cap n k : Nat) (cur0 : Array Value) (w : World) (hg : w.heap[g]? = some (.cells cur0 62 (0, 0))) (ho : o + n * 2 ≤ cur0.size) (hk : k + 2 * n ≤ 100000000) :
    Calls Tryz.prog 29 #[.slice (some ⟨g, o, none⟩) n cap, .int .i64 k] w fun e w' => e = .returned (.int .i64 ((k + 2 * n : Nat) : Int)) ∧ (∃ cur, w'.heap[g]? = some (.cells cur 62 (0, 0)) ∧ cur.size = cur0.size ∧ MarksA cur o n k) ∧ w.grownBy w' (some g) := by
  have HG := hid hg
  clear hg
  go_enter Tryz.func29, Tryz.ntmps29
  go_wp2
  go_loopw [1, 5] (fun x y wr => ∃ (i : Nat) (cur : Array Value), x = .int .i64 ((k + 2 * i : Nat) : Int) ∧ y = .int .i64 (i : Int) ∧ i ≤ n ∧ Hid (wr.heap[g]? = some (.cells cur 62 (0, 0))) ∧ cur.size = cur0.size ∧ Hid (MarksA cur o i k) ∧ Hid (w.grownBy wr (some g))) (fun _ y _ => n - (intOf y).toNat)
  case atStart => exact ⟨0, cur0, rfl, rfl, Nat.zero_le _, HG.out, rfl, fun j h => by omega, World.grownBy.refl _ _⟩
  case round =>
    clear HG
    obtain ⟨i, cur, rfl, rfl, hi, HH, hcs, HM, HW⟩ := hrel
    by_cases hlt : i < n
    · have hin : (i : Int) < (n : Int) := by omega
      have C1 := fun w => cMarkText (k + 2 * i) (by omega) w
      have C2 := fun w => cMarkText (k + 2 * i + 1) (by omega) w
      have e1 : ((k + 2 * i : Nat) : Int) + 1 = ((k + 2 * i + 1 : Nat) : Int) := by omega
      have e2 : ((k + 2 * i + 1 : Nat) : Int) + 1 = ((k + 2 * (i + 1) : Nat) : Int) := by omega
      obtain ⟨K, hK⟩ : ∃ K, k + 2 * i = K := ⟨_, rfl⟩
      obtain ⟨X, hX⟩ : ∃ X, markS (k + 2 * i) = X := ⟨_, rfl⟩
      obtain ⟨Y, hY⟩ : ∃ Y, markS (k + 2 * i + 1) = Y := ⟨_, rfl⟩
      have HX := hid hX
      have HY := hid hY
      have HE := hid (show K + 2 = k + 2 * (i + 1) by omega)
      rw [hX] at C1
      rw [hY] at C2
      rw [hK] at C1 C2 ⊢
      have hKb : K ≤ 100000000 := by omega
      clear hX hY hK e1 e2
      go_wp2_with fail
      refine (C1 _).mono ?_
      rintro e w2 ⟨rfl, hb2⟩
      have HW2 := hid (gr_below HW.out hb2)
      have H2 := hid (blk_below HH.out hb2)
      obtain ⟨o1, k1⟩ := cell_there H2.out (i := o + i * 2) (by omega)
      have f1 : w2.frozen? ⟨g, o + i * 2, none⟩ = false := Lib.frozen_of_heap H2.out _
      have H3 := hid (heap_set (i := o + i * 2) H2.out (.string X))
      have HW3 := hid (gr_set HW2.out (o + i * 2) (.string X))
      clear hb2 C1
      obtain ⟨w3, hw3⟩ : ∃ w3, w2.setCell ⟨g, o + i * 2, none⟩ (.string X) = w3 := ⟨_, rfl⟩
      rw [hw3] at H3 HW3
      go_wp2_with fail
      refine (C2 _).mono ?_
      rintro e w4 ⟨rfl, hb4⟩
      have HW4 := hid (gr_below HW3.out hb4)
      have H4 := hid (blk_below H3.out hb4)
      obtain ⟨o2, k2⟩ := cell_there H4.out (i := o + i * 2 + 1) (by simp; omega)
      have f2 : w4.frozen? ⟨g, o + i * 2 + 1, none⟩ = false := Lib.frozen_of_heap H4.out _
      have H5 := hid (heap_set (i := o + i * 2 + 1) H4.out (.string Y))
      have HW5 := hid (gr_set HW4.out (o + i * 2 + 1) (.string Y))
      have HM5 := hid (show MarksA ((cur.setIfInBounds (o + i * 2) (.string X)).setIfInBounds (o + i * 2 + 1) (.string Y)) o (i + 1) k from fun j hj => by
        by_cases e : j = i
        · subst e
          rw [HX.out, HY.out]
          simp [Array.getElem?_setIfInBounds, hcs]
          omega
        · have := HM.out j (by omega)
          simp only [Array.getElem?_setIfInBounds]
          rw [if_neg (by omega), if_neg (by omega), if_neg (by omega), if_neg (by omega)]
          exact this)
      clear hb4 C2 hw3 k1 f1
      go_wp2_with fail
      go_roundw
      case rel => exact ⟨i + 1, _, by rw [← HE.out]; go_num, by go_num, by omega, H5.out, by simp [hcs], HM5.out, HW5.out⟩
      case measure => simp [intOf]; omega
    · have hie : i = n := by omega
      subst hie
      go_wp2_with fail
      go_ret
      exact ⟨rfl, ⟨cur, HH.out, hcs, HM.out⟩, HW.out⟩

end Go.Proofs.YtkejmifkjgpdjaaGreat

namespace Go.Proofs.YtkejmifkjgpdjaaGreat
open Go.RowKit
set_option linter.unusedVariables false
set_option linter.unusedSimpArgs false

/-- The tokens lie in a row from a on, each with its attrs. -/
def TkRow (w : World) (a : Option Addr) (ts : List Tk) : Prop :=
  ∀ j (h : j < ts.length), ∃ b o aa cap, a = some ⟨b, o, none⟩ ∧ b < w.heap.size ∧ w.cell? ⟨b, o + j * 4, none⟩ = some (.int .i64 ts[j].kind) ∧ w.cell? ⟨b, o + j * 4 + 1, none⟩ = some (.string ts[j].name)
    ∧ w.cell? ⟨b, o + j * 4 + 2, none⟩ = some (.slice aa ts[j].attrs.length cap) ∧ w.cell? ⟨b, o + j * 4 + 3, none⟩ = some (.string ts[j].text) ∧ AtRow w aa ts[j].attrs

theorem TkRow.below {w w' : World} {a : Option Addr} {ts : List Tk} (h : TkRow w a ts) (hb : Below w.heap.size w w') : TkRow w' a ts := by
  intro j hj
  obtain ⟨b, o, aa, cap, ha, hlt, c0, c1, c2, c3, hr⟩ := h j hj
  exact ⟨b, o, aa, cap, ha, Nat.lt_of_lt_of_le hlt hb.size, (hb.cell (p := ⟨b, o + j * 4, none⟩) hlt).trans c0, (hb.cell (p := ⟨b, o + j * 4 + 1, none⟩) hlt).trans c1, (hb.cell (p := ⟨b, o + j * 4 + 2, none⟩) hlt).trans c2, (hb.cell (p := ⟨b, o + j * 4 + 3, none⟩) hlt).trans c3, hr.below hb⟩

def TksSz (n : Nat) (ts : List Tk) : Prop := ∀ t ∈ ts, TkSz n t

theorem quad_bw {W : World} {b o : Nat} {x y z u : Value} (hb : b < W.heap.size) (h0 : W.cell? ⟨b, o, none⟩ = some x) (h1 : W.cell? ⟨b, o + 1, none⟩ = some y) (h2 : W.cell? ⟨b, o + 2, none⟩ = some z) (h3 : W.cell? ⟨b, o + 3, none⟩ = some u) :
    (∀ p : BW W, p.w.cell? ⟨b, o, none⟩ = some x) ∧ (∀ p : BW W, p.w.cell? ⟨b, o + 1, none⟩ = some y) ∧ (∀ p : BW W, p.w.cell? ⟨b, o + 2, none⟩ = some z) ∧ (∀ p : BW W, p.w.cell? ⟨b, o + 3, none⟩ = some u) :=
  ⟨fun p => (p.h.cell (p := ⟨b, o, none⟩) hb).trans h0, fun p => (p.h.cell (p := ⟨b, o + 1, none⟩) hb).trans h1, fun p => (p.h.cell (p := ⟨b, o + 2, none⟩) hb).trans h2, fun p => (p.h.cell (p := ⟨b, o + 3, none⟩) hb).trans h3⟩

/-- All blocks that are not of these stand as they stood. -/
structure KeepB (p : Nat → Prop) (w w' : World) : Prop where
  os : w'.os = w.os
  tape : w'.tape = w.tape
  output : w'.output = w.output
  size : w.heap.size ≤ w'.heap.size
  block : ∀ k, k < w.heap.size → ¬ p k → w'.heap[k]? = w.heap[k]?

theorem KeepB.refl (p : Nat → Prop) (w : World) : KeepB p w w := ⟨rfl, rfl, rfl, Nat.le_refl _, fun _ _ _ => rfl⟩

theorem KeepB.trans {p : Nat → Prop} {a b c : World} (h : KeepB p a b) (k : KeepB p b c) : KeepB p a c :=
  ⟨k.os.trans h.os, k.tape.trans h.tape, k.output.trans h.output, Nat.le_trans h.size k.size, fun i hi hr => (k.block i (Nat.lt_of_lt_of_le hi h.size) hr).trans (h.block i hi hr)⟩

theorem KeepB.of_below (p : Nat → Prop) {w w' : World} (h : Below w.heap.size w w') : KeepB p w w' := ⟨h.os, h.tape, h.output, h.size, fun i hi _ => h.block i hi⟩

theorem KeepB.of_grown {p : Nat → Prop} {w w' : World} {g : Nat} (h : w.grownBy w' (some g)) (hp : p g) : KeepB p w w' :=
  ⟨h.os, h.tape, h.output, h.size, fun i hi hr => h.block i hi (fun e => hr (by rw [Option.some.inj e]; exact hp))⟩

theorem KeepB.of_set {p : Nat → Prop} (w : World) {g : Nat} (i : Nat) (v : Value) (hp : p g) : KeepB p w (w.setCell ⟨g, i, none⟩ v) := KeepB.of_grown (Lib.grownBy_setCell w g i v) hp

theorem KeepB.mono {p q : Nat → Prop} {w w' : World} (h : KeepB p w w') (hq : ∀ k, p k → q k) : KeepB q w w' := ⟨h.os, h.tape, h.output, h.size, fun i hi hr => h.block i hi (fun e => hr (hq i e))⟩

theorem KeepB.below {p : Nat → Prop} {w w' : World} {B : Nat} (h : KeepB p w w') (hB : B ≤ w.heap.size) (hp : ∀ k, p k → B ≤ k) : Below B w w' :=
  ⟨h.os, h.tape, h.output, h.size, fun i hi => h.block i (by omega) (fun e => by have := hp i e; omega)⟩

end Go.Proofs.YtkejmifkjgpdjaaGreat
