/- Contract of spec.Unescaped: it answers what unescL says. -/
import Derived.Test.YtigcmabnfmnpmaaRows
import Derived.Test.YtigcmabnfmnpmaaUnesc
import Derived.Test.YtigcmabnfmnpmaaEscaped
import Derived.WalkKit
import Derived.Deep.QuietTactic
import Derived.BigQuiet
namespace Go.Proofs.Ytigcmabnfmnpmaa
open Go.RowKit
set_option linter.unusedVariables false
set_option linter.unusedSimpArgs false

def marksObj : Obj := .cells #[.string ⟨#[38, 97, 109, 112, 59]⟩, .string ⟨#[38, 108, 116, 59]⟩, .string ⟨#[38, 103, 116, 59]⟩, .string ⟨#[38, 113, 117, 111, 116, 59]⟩] 9 (0, 0)

/-- Which mark begins the text, of the first so many: the last that does; -1 of none. -/
def fnd (l : List UInt8) : Nat → Int
  | 0 => -1
  | 1 => if amp.isPrefixOf l then 0 else -1
  | 2 => if lt.isPrefixOf l then 1 else if amp.isPrefixOf l then 0 else -1
  | 3 => if gt.isPrefixOf l then 2 else if lt.isPrefixOf l then 1 else if amp.isPrefixOf l then 0 else -1
  | _ => if quot.isPrefixOf l then 3 else if gt.isPrefixOf l then 2 else if lt.isPrefixOf l then 1 else if amp.isPrefixOf l then 0 else -1

theorem ext_take (s : ByteArray) (k n : Nat) : (s.extract k (k + n)).toList = (s.data.toList.drop k).take n := by
  rw [Lib.toList_data, ByteArray.data_extract, Array.toList_extract, List.extract_eq_take_drop]
  congr 1
  omega

theorem take_eq (l p : List UInt8) : (l.take p.length == p) = p.isPrefixOf l := by
  rw [Bool.eq_iff_iff, beq_iff_eq, List.isPrefixOf_iff_prefix, List.prefix_iff_eq_take]
  exact eq_comm

theorem hsl_of (s : ByteArray) (k n : Nat) (h : k + n ≤ s.size) : ∀ W, (Instr.slice 9 (.string s) (some (.int .i64 k)) (some (.int .i64 ((k : Int) + n))) none).run Try.prog W = .ok (.string (s.extract k (k + n))) W := by
  intro W
  have := run_slice_string (P := Try.prog) W 9 s .i64 .i64 (k : Int) ((k : Int) + n) Try.underlying9 (by omega) (by omega) (by omega)
  rw [this]
  congr 3

theorem short_no (s : ByteArray) (k : Nat) (p : List UInt8) (hk : k ≤ s.size) (h : ¬ k + p.length ≤ s.size) : p.isPrefixOf (s.data.toList.drop k) = false := by
  cases hp : p.isPrefixOf (s.data.toList.drop k) with
  | false => rfl
  | true =>
    have h2 := isPrefixOf_le hp
    rw [drop_len] at h2
    omega

theorem marks_kept {wr w1 : World} {B : Nat} {v : Value} {n : Nat} {xs : List Value} (hM : wr.heap[B + 1]? = some marksObj) (hown : wr.ownsRow B 5 1 v n xs) (hg : wr.grownBy w1 v.ownBlock) : w1.heap[B + 1]? = some marksObj := by
  rw [hg.block (B + 1) (lt_of_heap hM) (fun e => Lib.ownBlock_ne (T := 9) hown hM (by decide) e.symm)]
  exact hM

theorem marks_alloc {wr : World} {B : Nat} (o : Obj) (hM : wr.heap[B + 1]? = some marksObj) : (wr.alloc o).heap[B + 1]? = some marksObj :=
  (Lib.alloc_old wr o (B + 1) (lt_of_heap hM)).trans hM

set_option maxHeartbeats 1000000 in
theorem c12_no (s : ByteArray) (w : World) (h0 : s.size ≤ 1048576) (hp : plainL s.data.toList = false) :
    Calls Try.prog 12 #[.string s] w fun e w' => e = .returned (.tuple #[.string ⟨(outU (unescL s.data.toList)).toArray⟩, .bool (unescL s.data.toList).isSome]) ∧ Below w.heap.size w w' := by
  rw [unesc_no hp]
  go_enter Try.func12, Try.ntmps12
  go_wp2_with (go_at_call 15; refine (c15 _ _ (by unfold maxLen; omega)).mono ?_; rintro e w' ⟨rfl, rfl⟩)
  go_ret2
  exact ⟨rfl, Below.refl _ _⟩

theorem apart {p q l : List UInt8} (h : p.isPrefixOf l = true) (hpq : p.isPrefixOf q = false) (hqp : q.isPrefixOf p = false) : q.isPrefixOf l = false := by
  cases hq : q.isPrefixOf l with
  | false => rfl
  | true =>
    have h1 := List.isPrefixOf_iff_prefix.1 h
    have h2 := List.isPrefixOf_iff_prefix.1 hq
    rcases List.prefix_or_prefix_of_prefix h1 h2 with h3 | h3
    · rw [List.isPrefixOf_iff_prefix.2 h3] at hpq; exact absurd hpq (by decide)
    · rw [List.isPrefixOf_iff_prefix.2 h3] at hqp; exact absurd hqp (by decide)

theorem no_lt_of_amp {l : List UInt8} (h : amp.isPrefixOf l = true) : lt.isPrefixOf l = false := apart h (by decide) (by decide)
theorem no_gt_of_amp {l : List UInt8} (h : amp.isPrefixOf l = true) : gt.isPrefixOf l = false := apart h (by decide) (by decide)
theorem no_quot_of_amp {l : List UInt8} (h : amp.isPrefixOf l = true) : quot.isPrefixOf l = false := apart h (by decide) (by decide)
theorem no_gt_of_lt {l : List UInt8} (h : lt.isPrefixOf l = true) : gt.isPrefixOf l = false := apart h (by decide) (by decide)
theorem no_quot_of_lt {l : List UInt8} (h : lt.isPrefixOf l = true) : quot.isPrefixOf l = false := apart h (by decide) (by decide)
theorem no_quot_of_gt {l : List UInt8} (h : gt.isPrefixOf l = true) : quot.isPrefixOf l = false := apart h (by decide) (by decide)

set_option maxHeartbeats 8000000 in
theorem c12_yes (s : ByteArray) (w : World) (h0 : s.size ≤ 1048576) (hp : plainL s.data.toList = true) :
    Calls Try.prog 12 #[.string s] w fun e w' => e = .returned (.tuple #[.string ⟨(outU (unescL s.data.toList)).toArray⟩, .bool (unescL s.data.toList).isSome]) ∧ Below w.heap.size w w' := by
  obtain ⟨i0, hi, hz0, hz1, hz2⟩ := info_parts info5
  go_enter Try.func12, Try.ntmps12
  go_wp2_with (go_at_call 15; refine (c15 _ _ (by unfold maxLen; omega)).mono ?_; rintro e w' ⟨rfl, rfl⟩)
  have HP : Hid (plainL s.data.toList = true) := hp
  clear hp
  go_loopw [4, 6] (fun v i wr => ∃ (k : Nat) (acc : List UInt8), k ≤ s.size ∧ i = .int .i64 k ∧ Reads s k acc ∧ wr.ownsRow w'.heap.size 5 1 v acc.length (Lib.byteCells acc) ∧ wr.heap[w'.heap.size + 1]? = some marksObj ∧ Below w'.heap.size w' wr) (fun _ i _ => s.size - (intOf i).toNat)
  case atStart =>
    refine ⟨0, [], Nat.zero_le _, rfl, reads_start s, (World.ownsRow_made _ _ _ (Nat.le_refl _) (by decide) rfl).alloc _, ?_, ((Below.refl _ _).alloc (Nat.le_refl _) _).alloc (by simp) _⟩
    rw [show w'.heap.size + 1 = (w'.alloc (.cells #[] 5)).heap.size by simp]
    exact heap_alloc_new _ _
  case round =>
    obtain ⟨k, acc, hk, rfl, hR, hown, hM, hB⟩ := hrel
    have hsz := hB.size
    have HR : Hid (Reads s k acc) := hR
    have hal : acc.length ≤ k := hR.1
    clear hR
    have m0 : wr.cell? ⟨w'.heap.size + 1, 0, none⟩ = some (.string ⟨#[38, 97, 109, 112, 59]⟩) := by rw [Lib.cell_of_heap hM]; rfl
    have m1 : wr.cell? ⟨w'.heap.size + 1, 1, none⟩ = some (.string ⟨#[38, 108, 116, 59]⟩) := by rw [Lib.cell_of_heap hM]; rfl
    have m2 : wr.cell? ⟨w'.heap.size + 1, 2, none⟩ = some (.string ⟨#[38, 103, 116, 59]⟩) := by rw [Lib.cell_of_heap hM]; rfl
    have m3 : wr.cell? ⟨w'.heap.size + 1, 3, none⟩ = some (.string ⟨#[38, 113, 117, 111, 116, 59]⟩) := by rw [Lib.cell_of_heap hM]; rfl
    by_cases hlt : k < s.size
    · have hcons : s.data.toList.drop k = s[k] :: s.data.toList.drop (k + 1) := List.drop_eq_getElem_cons (by rw [← sz s]; exact hlt)
      by_cases hc : (s[k].toNat : Int) = 38
      · have hb : ((s[k].toNat : Int) != 38) = false := by simp; omega
        have HC : Hid ((s[k].toNat : Int) = 38) := hc
        have HL : Hid (s.data.toList.drop k = s[k] :: s.data.toList.drop (k + 1)) := hcons
        clear hc hcons
        go_wp2
        go_loopw [7, 8] (fun f j wi => ∃ (m : Nat), m ≤ 4 ∧ j = .int .i64 m ∧ f = .int .i64 (fnd (s.data.toList.drop k) m) ∧ ∃ d, wi = wr.drewN d) (fun _ j _ => meas j)
        case atStart => exact ⟨0, by omega, rfl, rfl, 0, rfl⟩
        case round =>
          obtain ⟨m, hm, rfl, rfl, d, rfl⟩ := hrel
          rcases (show m = 0 ∨ m = 1 ∨ m = 2 ∨ m = 3 ∨ m = 4 from by omega) with rfl | rfl | rfl | rfl | rfl
          · have M : (wr.drewN d).cell? ⟨w'.heap.size + 1, 0, none⟩ = some (.string ⟨#[38, 97, 109, 112, 59]⟩) := m0
            by_cases hg : k + 5 ≤ s.size
            · have hgi : ((k : Int) + 5 ≤ s.size) := by omega
              have hgd : decide ((k : Int) + 5 ≤ s.size) = true := by simp; omega
              have hsl : ∀ W, (Instr.slice 9 (.string s) (some (.int .i64 k)) (some (.int .i64 ((k : Int) + 5))) none).run Try.prog W = .ok (.string (s.extract k (k + 5))) W := hsl_of s k 5 hg
              have hw : IntKind.i64.wrap ((k : Int) + 5) = (k : Int) + 5 := IntWalk.i64_in _ (by omega)
              have hE : ((s.extract k (k + 5)).toList == [38, 97, 109, 112, 59]) = amp.isPrefixOf (s.data.toList.drop k) := by rw [ext_take]; exact take_eq _ amp
              cases hP : amp.isPrefixOf (s.data.toList.drop k) with
              | true =>
                rw [hP] at hE
                have HF : Hid (fnd (s.data.toList.drop k) (0 + 1) = 0) := by show fnd _ _ = _; simp [fnd, hP]
                clear hP
                go_wp2
                go_quiet (fail)
                clear hgi hgd hsl hw
                go_wp2
                go_roundw
                case rel => exact ⟨1, by omega, by go_num, by rw [HF.out]; go_num, _, rfl⟩
                case measure => simp [meas, intOf]
              | false =>
                rw [hP] at hE
                have HF : Hid (fnd (s.data.toList.drop k) (0 + 1) = fnd (s.data.toList.drop k) 0) := by show fnd _ _ = fnd _ _; simp [fnd, hP]
                clear hP
                go_wp2
                go_quiet (fail)
                clear hgi hgd hsl hw
                go_wp2
                go_roundw
                case rel => exact ⟨1, by omega, by go_num, by rw [HF.out], _, rfl⟩
                case measure => simp [meas, intOf]
            · have hgi : decide ((k : Int) + 5 ≤ s.size) = false := by simp; omega
              have hw : IntKind.i64.wrap ((k : Int) + 5) = (k : Int) + 5 := IntWalk.i64_in _ (by omega)
              have hP := short_no s k amp hk hg
              have HF : Hid (fnd (s.data.toList.drop k) (0 + 1) = fnd (s.data.toList.drop k) 0) := by show fnd _ _ = fnd _ _; simp [fnd, hP]
              clear hP
              go_wp2
              go_quiet (fail)
              clear hgi hw
              go_wp2
              go_roundw
              case rel => exact ⟨1, by omega, by go_num, by rw [HF.out], _, rfl⟩
              case measure => simp [meas, intOf]
          · have M : (wr.drewN d).cell? ⟨w'.heap.size + 1, 1, none⟩ = some (.string ⟨#[38, 108, 116, 59]⟩) := m1
            by_cases hg : k + 4 ≤ s.size
            · have hgi : ((k : Int) + 4 ≤ s.size) := by omega
              have hgd : decide ((k : Int) + 4 ≤ s.size) = true := by simp; omega
              have hsl : ∀ W, (Instr.slice 9 (.string s) (some (.int .i64 k)) (some (.int .i64 ((k : Int) + 4))) none).run Try.prog W = .ok (.string (s.extract k (k + 4))) W := hsl_of s k 4 hg
              have hw : IntKind.i64.wrap ((k : Int) + 4) = (k : Int) + 4 := IntWalk.i64_in _ (by omega)
              have hE : ((s.extract k (k + 4)).toList == [38, 108, 116, 59]) = lt.isPrefixOf (s.data.toList.drop k) := by rw [ext_take]; exact take_eq _ lt
              cases hP : lt.isPrefixOf (s.data.toList.drop k) with
              | true =>
                rw [hP] at hE
                have HF : Hid (fnd (s.data.toList.drop k) (1 + 1) = 1) := by show fnd _ _ = _; simp [fnd, hP]
                clear hP
                go_wp2
                go_quiet (fail)
                clear hgi hgd hsl hw
                go_wp2
                go_roundw
                case rel => exact ⟨2, by omega, by go_num, by rw [HF.out]; go_num, _, rfl⟩
                case measure => simp [meas, intOf]
              | false =>
                rw [hP] at hE
                have HF : Hid (fnd (s.data.toList.drop k) (1 + 1) = fnd (s.data.toList.drop k) 1) := by show fnd _ _ = fnd _ _; simp [fnd, hP]
                clear hP
                go_wp2
                go_quiet (fail)
                clear hgi hgd hsl hw
                go_wp2
                go_roundw
                case rel => exact ⟨2, by omega, by go_num, by rw [HF.out], _, rfl⟩
                case measure => simp [meas, intOf]
            · have hgi : decide ((k : Int) + 4 ≤ s.size) = false := by simp; omega
              have hw : IntKind.i64.wrap ((k : Int) + 4) = (k : Int) + 4 := IntWalk.i64_in _ (by omega)
              have hP := short_no s k lt hk hg
              have HF : Hid (fnd (s.data.toList.drop k) (1 + 1) = fnd (s.data.toList.drop k) 1) := by show fnd _ _ = fnd _ _; simp [fnd, hP]
              clear hP
              go_wp2
              go_quiet (fail)
              clear hgi hw
              go_wp2
              go_roundw
              case rel => exact ⟨2, by omega, by go_num, by rw [HF.out], _, rfl⟩
              case measure => simp [meas, intOf]
          · have M : (wr.drewN d).cell? ⟨w'.heap.size + 1, 2, none⟩ = some (.string ⟨#[38, 103, 116, 59]⟩) := m2
            by_cases hg : k + 4 ≤ s.size
            · have hgi : ((k : Int) + 4 ≤ s.size) := by omega
              have hgd : decide ((k : Int) + 4 ≤ s.size) = true := by simp; omega
              have hsl : ∀ W, (Instr.slice 9 (.string s) (some (.int .i64 k)) (some (.int .i64 ((k : Int) + 4))) none).run Try.prog W = .ok (.string (s.extract k (k + 4))) W := hsl_of s k 4 hg
              have hw : IntKind.i64.wrap ((k : Int) + 4) = (k : Int) + 4 := IntWalk.i64_in _ (by omega)
              have hE : ((s.extract k (k + 4)).toList == [38, 103, 116, 59]) = gt.isPrefixOf (s.data.toList.drop k) := by rw [ext_take]; exact take_eq _ gt
              cases hP : gt.isPrefixOf (s.data.toList.drop k) with
              | true =>
                rw [hP] at hE
                have HF : Hid (fnd (s.data.toList.drop k) (2 + 1) = 2) := by show fnd _ _ = _; simp [fnd, hP]
                clear hP
                go_wp2
                go_quiet (fail)
                clear hgi hgd hsl hw
                go_wp2
                go_roundw
                case rel => exact ⟨3, by omega, by go_num, by rw [HF.out]; go_num, _, rfl⟩
                case measure => simp [meas, intOf]
              | false =>
                rw [hP] at hE
                have HF : Hid (fnd (s.data.toList.drop k) (2 + 1) = fnd (s.data.toList.drop k) 2) := by show fnd _ _ = fnd _ _; simp [fnd, hP]
                clear hP
                go_wp2
                go_quiet (fail)
                clear hgi hgd hsl hw
                go_wp2
                go_roundw
                case rel => exact ⟨3, by omega, by go_num, by rw [HF.out], _, rfl⟩
                case measure => simp [meas, intOf]
            · have hgi : decide ((k : Int) + 4 ≤ s.size) = false := by simp; omega
              have hw : IntKind.i64.wrap ((k : Int) + 4) = (k : Int) + 4 := IntWalk.i64_in _ (by omega)
              have hP := short_no s k gt hk hg
              have HF : Hid (fnd (s.data.toList.drop k) (2 + 1) = fnd (s.data.toList.drop k) 2) := by show fnd _ _ = fnd _ _; simp [fnd, hP]
              clear hP
              go_wp2
              go_quiet (fail)
              clear hgi hw
              go_wp2
              go_roundw
              case rel => exact ⟨3, by omega, by go_num, by rw [HF.out], _, rfl⟩
              case measure => simp [meas, intOf]
          · have M : (wr.drewN d).cell? ⟨w'.heap.size + 1, 3, none⟩ = some (.string ⟨#[38, 113, 117, 111, 116, 59]⟩) := m3
            by_cases hg : k + 6 ≤ s.size
            · have hgi : ((k : Int) + 6 ≤ s.size) := by omega
              have hgd : decide ((k : Int) + 6 ≤ s.size) = true := by simp; omega
              have hsl : ∀ W, (Instr.slice 9 (.string s) (some (.int .i64 k)) (some (.int .i64 ((k : Int) + 6))) none).run Try.prog W = .ok (.string (s.extract k (k + 6))) W := hsl_of s k 6 hg
              have hw : IntKind.i64.wrap ((k : Int) + 6) = (k : Int) + 6 := IntWalk.i64_in _ (by omega)
              have hE : ((s.extract k (k + 6)).toList == [38, 113, 117, 111, 116, 59]) = quot.isPrefixOf (s.data.toList.drop k) := by rw [ext_take]; exact take_eq _ quot
              cases hP : quot.isPrefixOf (s.data.toList.drop k) with
              | true =>
                rw [hP] at hE
                have HF : Hid (fnd (s.data.toList.drop k) (3 + 1) = 3) := by show fnd _ _ = _; simp [fnd, hP]
                clear hP
                go_wp2
                go_quiet (fail)
                clear hgi hgd hsl hw
                go_wp2
                go_roundw
                case rel => exact ⟨4, by omega, by go_num, by rw [HF.out]; go_num, _, rfl⟩
                case measure => simp [meas, intOf]
              | false =>
                rw [hP] at hE
                have HF : Hid (fnd (s.data.toList.drop k) (3 + 1) = fnd (s.data.toList.drop k) 3) := by show fnd _ _ = fnd _ _; simp [fnd, hP]
                clear hP
                go_wp2
                go_quiet (fail)
                clear hgi hgd hsl hw
                go_wp2
                go_roundw
                case rel => exact ⟨4, by omega, by go_num, by rw [HF.out], _, rfl⟩
                case measure => simp [meas, intOf]
            · have hgi : decide ((k : Int) + 6 ≤ s.size) = false := by simp; omega
              have hw : IntKind.i64.wrap ((k : Int) + 6) = (k : Int) + 6 := IntWalk.i64_in _ (by omega)
              have hP := short_no s k quot hk hg
              have HF : Hid (fnd (s.data.toList.drop k) (3 + 1) = fnd (s.data.toList.drop k) 3) := by show fnd _ _ = fnd _ _; simp [fnd, hP]
              clear hP
              go_wp2
              go_quiet (fail)
              clear hgi hw
              go_wp2
              go_roundw
              case rel => exact ⟨4, by omega, by go_num, by rw [HF.out], _, rfl⟩
              case measure => simp [meas, intOf]
          · cases P0 : amp.isPrefixOf (s.data.toList.drop k) with
            | true =>
              have hr : readL (s.data.toList.drop k) = some (38, 5) := readL_amp _ P0
              have hF : fnd (s.data.toList.drop k) 4 = 0 := by simp [fnd, P0, no_lt_of_amp P0, no_gt_of_amp P0, no_quot_of_amp P0]
              have hn := readL_le _ _ _ hr
              rw [drop_len] at hn
              have hn2 : k + 5 ≤ s.size := by omega
              have HS : Hid (Reads s (k + 5) (acc ++ [38])) := reads_step HR.out hlt hr
              clear hr hn P0
              rw [hF]
              clear hF
              have hown0 : (wr.drewN d).ownsRow w'.heap.size 5 1 u4 acc.length (Lib.byteCells acc) := hown
              have hM0 : (wr.drewN d).heap[w'.heap.size + 1]? = some marksObj := hM
              have hB0 : Below w'.heap.size w' (wr.drewN d) := ⟨hB.os, hB.tape, hB.output, hB.size, hB.block⟩
              go_wp2_with (at_builtin; refine wpList_append_own _ rfl _ _ 22 rfl w'.heap.size 5 i0 (.int .u8 0) 1 1 Try.underlying22 hi hz0 hz1 hz2 rfl (by decide) _ _ _ rfl (hown0.alloc _) ⟨wr.heap.size, 0, none⟩ 1 1 [.int .u8 38] rfl rfl (one_cell _ _) (one_one _) (by unfold maxLen; omega) (by omega) (by simp; omega) ?_)
              intro v' w1 hown' hgrow _
              have hM1 := marks_kept (marks_alloc _ hM0) (hown0.alloc _) hgrow
              have hB1 := (hB0.alloc hsz _).grown hgrow (by simp; omega) (fun k hk => (hown0.lt k hk).1)
              have mm : w1.cell? ⟨w'.heap.size + 1, 0, none⟩ = some (.string ⟨#[38, 97, 109, 112, 59]⟩) := by rw [Lib.cell_of_heap hM1]; rfl
              have R : w1.ownsRow w'.heap.size 5 1 v' (acc ++ [38]).length (Lib.byteCells (acc ++ [38])) := by rw [byteCells_snoc, List.length_append]; exact hown'
              clear hown' hgrow hown hown0 hM hM0 hB0 m0 m1 m2 m3
              go_wp2
              go_roundw
              case rel => exact ⟨k + 5, acc ++ [38], by omega, by go_num, HS.out, R, hM1, hB1⟩
              case measure => simp [intOf]; omega
            | false =>
              cases P1 : lt.isPrefixOf (s.data.toList.drop k) with
              | true =>
                have hr : readL (s.data.toList.drop k) = some (60, 4) := readL_lt _ P0 P1
                have hF : fnd (s.data.toList.drop k) 4 = 1 := by simp [fnd, P0, P1, no_gt_of_lt P1, no_quot_of_lt P1]
                have hn := readL_le _ _ _ hr
                rw [drop_len] at hn
                have hn2 : k + 4 ≤ s.size := by omega
                have HS : Hid (Reads s (k + 4) (acc ++ [60])) := reads_step HR.out hlt hr
                clear hr hn P0 P1
                rw [hF]
                clear hF
                have hown0 : (wr.drewN d).ownsRow w'.heap.size 5 1 u4 acc.length (Lib.byteCells acc) := hown
                have hM0 : (wr.drewN d).heap[w'.heap.size + 1]? = some marksObj := hM
                have hB0 : Below w'.heap.size w' (wr.drewN d) := ⟨hB.os, hB.tape, hB.output, hB.size, hB.block⟩
                go_wp2_with (at_builtin; refine wpList_append_own _ rfl _ _ 22 rfl w'.heap.size 5 i0 (.int .u8 0) 1 1 Try.underlying22 hi hz0 hz1 hz2 rfl (by decide) _ _ _ rfl (hown0.alloc _) ⟨wr.heap.size, 0, none⟩ 1 1 [.int .u8 60] rfl rfl (one_cell _ _) (one_one _) (by unfold maxLen; omega) (by omega) (by simp; omega) ?_)
                intro v' w1 hown' hgrow _
                have hM1 := marks_kept (marks_alloc _ hM0) (hown0.alloc _) hgrow
                have hB1 := (hB0.alloc hsz _).grown hgrow (by simp; omega) (fun k hk => (hown0.lt k hk).1)
                have mm : w1.cell? ⟨w'.heap.size + 1, 1, none⟩ = some (.string ⟨#[38, 108, 116, 59]⟩) := by rw [Lib.cell_of_heap hM1]; rfl
                have R : w1.ownsRow w'.heap.size 5 1 v' (acc ++ [60]).length (Lib.byteCells (acc ++ [60])) := by rw [byteCells_snoc, List.length_append]; exact hown'
                clear hown' hgrow hown hown0 hM hM0 hB0 m0 m1 m2 m3
                go_wp2
                go_roundw
                case rel => exact ⟨k + 4, acc ++ [60], by omega, by go_num, HS.out, R, hM1, hB1⟩
                case measure => simp [intOf]; omega
              | false =>
                cases P2 : gt.isPrefixOf (s.data.toList.drop k) with
                | true =>
                  have hr : readL (s.data.toList.drop k) = some (62, 4) := readL_gt _ P0 P1 P2
                  have hF : fnd (s.data.toList.drop k) 4 = 2 := by simp [fnd, P0, P1, P2, no_quot_of_gt P2]
                  have hn := readL_le _ _ _ hr
                  rw [drop_len] at hn
                  have hn2 : k + 4 ≤ s.size := by omega
                  have HS : Hid (Reads s (k + 4) (acc ++ [62])) := reads_step HR.out hlt hr
                  clear hr hn P0 P1 P2
                  rw [hF]
                  clear hF
                  have hown0 : (wr.drewN d).ownsRow w'.heap.size 5 1 u4 acc.length (Lib.byteCells acc) := hown
                  have hM0 : (wr.drewN d).heap[w'.heap.size + 1]? = some marksObj := hM
                  have hB0 : Below w'.heap.size w' (wr.drewN d) := ⟨hB.os, hB.tape, hB.output, hB.size, hB.block⟩
                  go_wp2_with (at_builtin; refine wpList_append_own _ rfl _ _ 22 rfl w'.heap.size 5 i0 (.int .u8 0) 1 1 Try.underlying22 hi hz0 hz1 hz2 rfl (by decide) _ _ _ rfl (hown0.alloc _) ⟨wr.heap.size, 0, none⟩ 1 1 [.int .u8 62] rfl rfl (one_cell _ _) (one_one _) (by unfold maxLen; omega) (by omega) (by simp; omega) ?_)
                  intro v' w1 hown' hgrow _
                  have hM1 := marks_kept (marks_alloc _ hM0) (hown0.alloc _) hgrow
                  have hB1 := (hB0.alloc hsz _).grown hgrow (by simp; omega) (fun k hk => (hown0.lt k hk).1)
                  have mm : w1.cell? ⟨w'.heap.size + 1, 2, none⟩ = some (.string ⟨#[38, 103, 116, 59]⟩) := by rw [Lib.cell_of_heap hM1]; rfl
                  have R : w1.ownsRow w'.heap.size 5 1 v' (acc ++ [62]).length (Lib.byteCells (acc ++ [62])) := by rw [byteCells_snoc, List.length_append]; exact hown'
                  clear hown' hgrow hown hown0 hM hM0 hB0 m0 m1 m2 m3
                  go_wp2
                  go_roundw
                  case rel => exact ⟨k + 4, acc ++ [62], by omega, by go_num, HS.out, R, hM1, hB1⟩
                  case measure => simp [intOf]; omega
                | false =>
                  cases P3 : quot.isPrefixOf (s.data.toList.drop k) with
                  | true =>
                    have hr : readL (s.data.toList.drop k) = some (34, 6) := readL_quot _ P0 P1 P2 P3
                    have hF : fnd (s.data.toList.drop k) 4 = 3 := by simp [fnd, P0, P1, P2, P3]
                    have hn := readL_le _ _ _ hr
                    rw [drop_len] at hn
                    have hn2 : k + 6 ≤ s.size := by omega
                    have HS : Hid (Reads s (k + 6) (acc ++ [34])) := reads_step HR.out hlt hr
                    clear hr hn P0 P1 P2 P3
                    rw [hF]
                    clear hF
                    have hown0 : (wr.drewN d).ownsRow w'.heap.size 5 1 u4 acc.length (Lib.byteCells acc) := hown
                    have hM0 : (wr.drewN d).heap[w'.heap.size + 1]? = some marksObj := hM
                    have hB0 : Below w'.heap.size w' (wr.drewN d) := ⟨hB.os, hB.tape, hB.output, hB.size, hB.block⟩
                    go_wp2_with (at_builtin; refine wpList_append_own _ rfl _ _ 22 rfl w'.heap.size 5 i0 (.int .u8 0) 1 1 Try.underlying22 hi hz0 hz1 hz2 rfl (by decide) _ _ _ rfl (hown0.alloc _) ⟨wr.heap.size, 0, none⟩ 1 1 [.int .u8 34] rfl rfl (one_cell _ _) (one_one _) (by unfold maxLen; omega) (by omega) (by simp; omega) ?_)
                    intro v' w1 hown' hgrow _
                    have hM1 := marks_kept (marks_alloc _ hM0) (hown0.alloc _) hgrow
                    have hB1 := (hB0.alloc hsz _).grown hgrow (by simp; omega) (fun k hk => (hown0.lt k hk).1)
                    have mm : w1.cell? ⟨w'.heap.size + 1, 3, none⟩ = some (.string ⟨#[38, 113, 117, 111, 116, 59]⟩) := by rw [Lib.cell_of_heap hM1]; rfl
                    have R : w1.ownsRow w'.heap.size 5 1 v' (acc ++ [34]).length (Lib.byteCells (acc ++ [34])) := by rw [byteCells_snoc, List.length_append]; exact hown'
                    clear hown' hgrow hown hown0 hM hM0 hB0 m0 m1 m2 m3
                    go_wp2
                    go_roundw
                    case rel => exact ⟨k + 6, acc ++ [34], by omega, by go_num, HS.out, R, hM1, hB1⟩
                    case measure => simp [intOf]; omega
                  | false =>
                    have hF : fnd (s.data.toList.drop k) 4 = -1 := by simp [fnd, P0, P1, P2, P3]
                    have hr : readL (s.data.toList.drop k) = none := by
                      rw [HL.out] at P0 P1 P2 P3 ⊢
                      exact readL_none _ _ (by have := HC.out; omega) P0 P1 P2 P3
                    have HU : Hid (unescL s.data.toList = none) := reads_none HR.out hlt HP.out hr
                    clear hr P0 P1 P2 P3
                    rw [hF]
                    clear hF
                    go_wp2
                    go_ret2
                    exact ⟨by rw [HU.out]; rfl, ⟨hB.os, hB.tape, hB.output, hB.size, hB.block⟩⟩
      · have hr : readL (s.data.toList.drop k) = some (s[k], 1) := by rw [hcons]; exact readL_plain _ _ (by omega)
        have HS : Hid (Reads s (k + 1) (acc ++ [s[k]])) := reads_step HR.out hlt hr
        clear hr hcons m0 m1 m2 m3
        go_wp2_with (at_builtin; refine wpList_append_own _ rfl _ _ 22 rfl w'.heap.size 5 i0 (.int .u8 0) 1 1 Try.underlying22 hi hz0 hz1 hz2 rfl (by decide) _ _ _ rfl (hown.alloc _) ⟨wr.heap.size, 0, none⟩ 1 1 [.int .u8 s[k].toNat] rfl rfl (one_cell _ _) (one_one _) (by unfold maxLen; omega) (by omega) (by simp; omega) ?_)
        intro v' w1 hown' hgrow _
        have hM1 := marks_kept (marks_alloc _ hM) (hown.alloc _) hgrow
        have hB1 := (hB.alloc hsz _).grown hgrow (by simp; omega) (fun k hk => (hown.lt k hk).1)
        have R : w1.ownsRow w'.heap.size 5 1 v' (acc ++ [s[k]]).length (Lib.byteCells (acc ++ [s[k]])) := by rw [byteCells_snoc, List.length_append]; exact hown'
        clear hown' hgrow hown hM
        go_wp2
        go_roundw
        case rel => exact ⟨k + 1, acc ++ [s[k]], by omega, by go_num, HS.out, R, hM1, hB1⟩
        case measure => simp [intOf]; omega
    · have HU : Hid (unescL s.data.toList = some acc) := reads_end HR.out hlt HP.out
      have hrr := run_str_own (P := Try.prog) (src := 22) (dst := 9) Try.underlying22 Try.underlying5 Try.underlying9 hown
      clear hown hM m0 m1 m2 m3
      go_wp2
      go_ret2
      exact ⟨by rw [HU.out]; rfl, hB⟩

theorem c12 (s : ByteArray) (w : World) (h0 : s.size ≤ 1048576) :
    Calls Try.prog 12 #[.string s] w fun e w' => e = .returned (.tuple #[.string ⟨(outU (unescL s.data.toList)).toArray⟩, .bool (unescL s.data.toList).isSome]) ∧ Below w.heap.size w w' := by
  cases hp : plainL s.data.toList
  · exact c12_no s w h0 hp
  · exact c12_yes s w h0 hp

end Go.Proofs.Ytigcmabnfmnpmaa
