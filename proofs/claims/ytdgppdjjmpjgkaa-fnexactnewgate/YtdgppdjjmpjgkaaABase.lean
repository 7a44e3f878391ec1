/- Words, keys and skews: what gates lean on. -/
import Derived.Test.YtdgppdjjmpjgkaaUBase
namespace Go.Proofs.Ytdgppdjjmpjgkaa
open Go.RowKit
set_option linter.unusedVariables false
set_option linter.unusedSimpArgs false

def g_wordLS : ByteArray := ⟨#[97, 98, 99, 100, 101, 102, 103, 104, 105, 106, 107, 108, 109, 110, 111, 112, 113, 114, 115, 116, 117, 118, 119, 120, 121, 122, 65, 66, 67, 68, 69, 70, 71, 72, 73, 74, 75, 76, 77, 78, 79, 80, 81, 82, 83, 84, 85, 86, 87, 88, 89, 90, 48, 49, 50, 51, 52, 53, 54, 55, 56, 57, 46, 64]⟩

/-- A word. -/
def g_wordB (s : ByteArray) : Bool := !decide (s.size = 0) && u_ofB g_wordLS 20 s

set_option maxHeartbeats 2000000 in
theorem g_c_spec_l14Word (s : ByteArray) (w : World) (hs : s.size ≤ 1048576) :
    Calls Try.prog 19 #[.string s] w fun e w' => e = .returned (.bool (g_wordB s)) ∧ Below w.heap.size w w' := by
  have C := hid (fun wx => u_c_spec_l1Of g_wordLS 20 s wx hs (by decide) (by decide))
  have E := u_empty_is s
  unfold g_wordB
  generalize u_ofB g_wordLS 20 s = V at *
  cases q : decide (s.size = 0) with
  | true =>
    rw [q] at E
    clear q hs
    go_enter Try.func19, Try.ntmps19
    go_wp2_with fail
    go_ret
    exact ⟨rfl, Below.refl _ _⟩
  | false =>
    rw [q] at E
    clear q hs
    go_enter Try.func19, Try.ntmps19
    go_wp2_with fail
    refine (C.out _).mono ?_
    rintro e w1 ⟨rfl, hb1⟩
    have HB1 := hid hb1
    clear hb1 C
    go_wp2_with fail
    go_ret
    exact ⟨rfl, HB1.out⟩

/-- A sign that may stand in a word. -/
def g_inWB (c : Int) : Bool := (decide (97 ≤ c) && decide (c ≤ 122)) || (decide (65 ≤ c) && decide (c ≤ 90)) || (decide (48 ≤ c) && decide (c ≤ 57)) || decide (c = 46) || decide (c = 64)

theorem g_inWB_all : ∀ n : Fin 256, u_inB g_wordLS (UInt8.ofNat n.val) = g_inWB (n.val : Int) := by decide +kernel

theorem g_inWB_is (c : UInt8) : u_inB g_wordLS c = g_inWB c.toNat := by
  have h := g_inWB_all ⟨c.toNat, c.toNat_lt⟩
  have e : UInt8.ofNat c.toNat = c := by simp
  rw [e] at h
  exact h

set_option maxHeartbeats 1000000 in
theorem g_cInWord (c : Int) (w : World) (h0 : 0 ≤ c) (h1 : c ≤ 255) :
    Calls Try.prog 48 #[.int .u8 c] w fun e w' => e = .returned (.bool (g_inWB c)) ∧ w' = w := by
  go_enter Try.func48, Try.ntmps48
  go_wp2_with (first | (go_at_call 63; refine (c__impl_sign__letter _ _ h0 h1).mono ?_; rintro e w' ⟨rfl, rfl⟩) | (go_at_call 64; refine (u_cDigit _ _ h0 h1).mono ?_; rintro e w' ⟨rfl, rfl⟩))
  all_goals go_ret
  all_goals exact ⟨ret_bool (by rw [Bool.eq_iff_iff]; simp_all [g_inWB, letB]; try omega), rfl⟩

/-- All signs may stand in a word. -/
def g_allWd (l : List UInt8) : Bool := l.all fun c => g_inWB c.toNat

theorem g_allWd_is (l : List UInt8) : (l.all fun c => g_wordLS.data.toList.any fun d => decide (d = c)) = g_allWd l := by
  unfold g_allWd
  congr 1
  funext c
  exact g_inWB_is c

theorem g_allWd_snoc (s : ByteArray) (k : Nat) (h : k < s.size) : g_allWd (s.data.toList.take (k + 1)) = (g_allWd (s.data.toList.take k) && g_inWB s[k].toNat) := by
  unfold g_allWd
  rw [take_snoc s k h, List.all_append]
  simp

theorem g_allWd_no (s : ByteArray) (k : Nat) (h : k < s.size) (hc : g_inWB s[k].toNat = false) : g_allWd s.data.toList = false := by
  cases hA : g_allWd s.data.toList with
  | false => rfl
  | true =>
    have := List.all_eq_true.1 hA s[k] (List.getElem_mem _)
    rw [hc] at this
    cases this

set_option maxHeartbeats 1000000 in
theorem g_cAllWord (s : ByteArray) (w : World) (hs : s.size ≤ 1048576) :
    Calls Try.prog 47 #[.string s, .func (.func 48) #[] #[]] w fun e w' => e = .returned (.bool (g_allWd s.data.toList)) ∧ w' = w := by
  go_enter Try.func47, Try.ntmps47
  go_wp2
  go_loop [8] (fun i => ∃ k : Nat, k ≤ s.size ∧ i = .int .i64 k ∧ Hid (g_allWd (s.data.toList.take k) = true)) (fun i => s.size - (intOf i).toNat)
  case atStart => exact ⟨0, Nat.zero_le _, rfl, rfl⟩
  case round =>
    obtain ⟨k, hk, rfl, HP⟩ := hrel
    by_cases hlt : k < s.size
    · have hb : (s[k].toNat : Int) ≤ 255 := by have := s[k].toNat_lt; omega
      cases hc : g_inWB s[k].toNat
      · go_wp2_with (go_at_call 48; refine (g_cInWord _ _ (by omega) hb).mono ?_; rintro e w' ⟨rfl, rfl⟩)
        go_ret
        exact ⟨ret_bool (g_allWd_no s k hlt hc).symm, rfl⟩
      · go_wp2_with (go_at_call 48; refine (g_cInWord _ _ (by omega) hb).mono ?_; rintro e w' ⟨rfl, rfl⟩)
        go_round
        case rel => exact ⟨k + 1, by omega, by go_num, by show g_allWd _ = true; rw [g_allWd_snoc s k hlt, HP.out, hc]; rfl⟩
        case measure => simp [intOf]; omega
    · go_wp2
      go_ret
      exact ⟨ret_bool (by rw [← take_full s k hlt]; exact HP.out.symm), rfl⟩

theorem g_wordB_is (s : ByteArray) : g_wordB s = (decide (1 ≤ s.size) && (decide (s.size ≤ 20) && g_allWd s.data.toList)) := by
  unfold g_wordB u_ofB
  rw [g_allWd_is, Bool.and_comm (g_allWd s.data.toList)]
  have e : (!decide (s.size = 0)) = decide (1 ≤ s.size) := by
    by_cases h : s.size = 0
    · rw [decide_eq_true h, decide_eq_false (show ¬ 1 ≤ s.size by omega)]; rfl
    · rw [decide_eq_false h, decide_eq_true (show 1 ≤ s.size by omega)]; rfl
  rw [e]

set_option maxHeartbeats 2000000 in
theorem g_cWordOk (s : ByteArray) (w : World) (hs : s.size ≤ 1048576) :
    Calls Try.prog 25 #[.string s] w fun e w' => e = .returned (.bool (g_wordB s)) ∧ w' = w := by
  have C := hid (fun wx => g_cAllWord s wx hs)
  rw [g_wordB_is]
  generalize g_allWd s.data.toList = M at *
  by_cases h1 : 1 ≤ s.size
  · rw [decide_eq_true h1]
    have h1' : (1 : Int) ≤ (s.size : Int) := by omega
    by_cases h12 : s.size ≤ 20
    · rw [decide_eq_true h12]
      have h12' : (s.size : Int) ≤ 20 := by omega
      go_enter Try.func25, Try.ntmps25
      go_wp2_with fail
      refine (C.out _).mono ?_
      rintro e w1 ⟨rfl, rfl⟩
      go_wp2_with fail
      go_ret
      exact ⟨by simp, rfl⟩
    · rw [decide_eq_false h12]
      have h12' : ¬ (s.size : Int) ≤ 20 := by omega
      go_enter Try.func25, Try.ntmps25
      go_wp2_with fail
      go_ret
      exact ⟨by simp, rfl⟩
  · rw [decide_eq_false h1]
    have h1' : ¬ (1 : Int) ≤ (s.size : Int) := by omega
    go_enter Try.func25, Try.ntmps25
    go_wp2_with fail
    go_ret
    exact ⟨by simp, rfl⟩

/-- A power that a key of this modulus may have. -/
def g_pwB (m p : Int) : Bool := decide (3 ≤ p ∧ p < m)

/-- What opens. -/
def g_opB (m o : Int) : Bool := decide ((2147483648 ≤ m ∧ m ≤ 3000000000) ∧ 3 ≤ o ∧ o < m)

/-- What locks. -/
def g_lkB (m o d : Int) : Bool := decide (((2147483648 ≤ m ∧ m ≤ 3000000000) ∧ 3 ≤ o ∧ o < m) ∧ 3 ≤ d ∧ d < m)

/-- A key that is right, public or not. -/
def g_okB (m o d : Int) : Bool := decide (((2147483648 ≤ m ∧ m ≤ 3000000000) ∧ 3 ≤ o ∧ o < m) ∧ (d = 0 ∨ 3 ≤ d ∧ d < m))

theorem g_dec_t {p : Prop} [Decidable p] (h : p) : decide p = true := decide_eq_true h

theorem g_dec_f {p : Prop} [Decidable p] (h : ¬ p) : decide p = false := decide_eq_false h

theorem g_k_bcell {W w1 : World} (hb : Below W.heap.size W w1) : (∀ b o, b < W.heap.size → w1.cell? ⟨b, o, none⟩ = W.cell? ⟨b, o, none⟩) ∧ (∀ b o, b < W.heap.size → w1.frozen? ⟨b, o, none⟩ = W.frozen? ⟨b, o, none⟩) :=
  ⟨fun b o h => hb.cell (p := ⟨b, o, none⟩) h, fun b o h => hb.frozen (p := ⟨b, o, none⟩) h⟩

theorem g_cPowerOk (m o p : Int) (w : World) :
    Calls Try.prog 79 #[.agg #[.int .i64 m, .int .i64 o], .int .i64 p] w fun e w' => e = .returned (.bool (g_pwB m p)) ∧ Below w.heap.size w w' := by
  by_cases h1 : 3 ≤ p
  · by_cases h2 : p < m
    · rw [show g_pwB m p = true from g_dec_t ⟨h1, h2⟩]
      go_enter Try.func79, Try.ntmps79
      go_wp2
      go_ret
      exact ⟨rfl, (Below.refl _ _).alloc (Nat.le_refl _) _⟩
    · rw [show g_pwB m p = false from g_dec_f (fun x => h2 x.2)]
      go_enter Try.func79, Try.ntmps79
      go_wp2
      go_ret
      exact ⟨rfl, (Below.refl _ _).alloc (Nat.le_refl _) _⟩
  · rw [show g_pwB m p = false from g_dec_f (fun x => h1 x.1)]
    go_enter Try.func79, Try.ntmps79
    go_wp2
    go_ret
    exact ⟨rfl, (Below.refl _ _).alloc (Nat.le_refl _) _⟩

theorem g_cOpens (m o : Int) (w : World) :
    Calls Try.prog 75 #[.agg #[.int .i64 m, .int .i64 o]] w fun e w' => e = .returned (.bool (g_opB m o)) ∧ Below w.heap.size w w' := by
  by_cases h1 : 2147483648 ≤ m
  · by_cases h2 : m ≤ 3000000000
    · have C := fun w => g_cPowerOk m o o w
      obtain ⟨B, hB⟩ : ∃ B, g_pwB m o = B := ⟨_, rfl⟩
      have hq : g_opB m o = B := by
        rw [← hB]; unfold g_opB g_pwB; simp [h1, h2]
      rw [hq]
      rw [hB] at C
      clear hq hB
      go_enter Try.func75, Try.ntmps75
      go_wp2_with (go_at_call 79; refine (C _).mono ?_; rintro e w' ⟨rfl, hb⟩)
      go_ret
      exact ⟨rfl, ((Below.refl _ _).alloc (Nat.le_refl _) _).trans (hb.mono (by simp))⟩
    · rw [show g_opB m o = false from g_dec_f (fun x => h2 x.1.2)]
      go_enter Try.func75, Try.ntmps75
      go_wp2
      go_ret
      exact ⟨rfl, (Below.refl _ _).alloc (Nat.le_refl _) _⟩
  · rw [show g_opB m o = false from g_dec_f (fun x => h1 x.1.1)]
    go_enter Try.func75, Try.ntmps75
    go_wp2
    go_ret
    exact ⟨rfl, (Below.refl _ _).alloc (Nat.le_refl _) _⟩

theorem g_cWholeOf (n e d : Int) (w : World) :
    Calls Try.prog 65 #[.agg #[.int .i64 n, .int .i64 e, .int .i64 d]] w fun x w' => x = .returned (.agg #[.int .i64 n, .int .i64 e, .int .i64 d]) ∧ Below w.heap.size w w' := by
  go_enter Try.func65, Try.ntmps65
  go_wp2
  refine bodyPost_ret (v := .agg #[.int .i64 n, .int .i64 e, .int .i64 d]) (by simp [results, Try.results65, go_sem]) rfl ⟨rfl, ?_⟩
  repeat first | exact Below.refl _ _ | refine Below.setCell ?_ (by simp) _ | refine Below.alloc ?_ (by simp) _

set_option maxHeartbeats 1000000 in
theorem g_cLocks (m o d : Int) (w : World) :
    Calls Try.prog 74 #[.agg #[.int .i64 m, .int .i64 o, .int .i64 d]] w fun e w' => e = .returned (.bool (g_lkB m o d)) ∧ Below w.heap.size w w' := by
  have CO := fun w => g_cOpens m o w
  by_cases h : g_opB m o = true
  · have CP := fun w => g_cPowerOk m o d w
    obtain ⟨B, hB⟩ : ∃ B, g_pwB m d = B := ⟨_, rfl⟩
    have hq : g_lkB m o d = B := by
      have h' : (2147483648 ≤ m ∧ m ≤ 3000000000) ∧ 3 ≤ o ∧ o < m := of_decide_eq_true h
      rw [← hB]; unfold g_lkB g_pwB; simp [h']
    rw [hq]
    rw [hB] at CP
    rw [h] at CO
    clear hq hB h
    go_enter Try.func74, Try.ntmps74
    go_wp2_with fail
    refine (CO _).mono ?_
    rintro e w1 ⟨rfl, hb⟩
    obtain ⟨hc, hf⟩ := g_k_bcell hb
    have HB : Hid (Below w.heap.size w w1) := ((Below.refl _ _).alloc (Nat.le_refl _) _).trans (hb.mono (by simp))
    go_wp2_with (go_at_call 79; refine (CP _).mono ?_; rintro e w2 ⟨rfl, hb2⟩)
    go_ret
    exact ⟨rfl, HB.out.trans (hb2.mono HB.out.size)⟩
  · have h : g_opB m o = false := by simpa using h
    have hq : g_lkB m o d = false := by
      have h' : ¬ ((2147483648 ≤ m ∧ m ≤ 3000000000) ∧ 3 ≤ o ∧ o < m) := of_decide_eq_false h
      unfold g_lkB; exact g_dec_f (fun x => h' x.1)
    rw [hq]
    rw [h] at CO
    clear hq h
    go_enter Try.func74, Try.ntmps74
    go_wp2_with (go_at_call 75; refine (CO _).mono ?_; rintro e w1 ⟨rfl, hb⟩)
    go_ret
    exact ⟨rfl, ((Below.refl _ _).alloc (Nat.le_refl _) _).trans (hb.mono (by simp))⟩

set_option maxHeartbeats 1000000 in
theorem g_cOk (m o d : Int) (w : World) :
    Calls Try.prog 66 #[.agg #[.int .i64 m, .int .i64 o, .int .i64 d]] w fun e w' => e = .returned (.bool (g_okB m o d)) ∧ Below w.heap.size w w' := by
  have CL := fun w => g_cLocks m o d w
  by_cases h : g_lkB m o d = true
  · have hq : g_okB m o d = true := by
      have h' : ((2147483648 ≤ m ∧ m ≤ 3000000000) ∧ 3 ≤ o ∧ o < m) ∧ 3 ≤ d ∧ d < m := of_decide_eq_true h
      exact g_dec_t ⟨h'.1, .inr h'.2⟩
    rw [hq]
    rw [h] at CL
    clear hq h
    go_enter Try.func66, Try.ntmps66
    go_wp2_with (go_at_call 74; refine (CL _).mono ?_; rintro e w1 ⟨rfl, hb⟩)
    go_ret
    exact ⟨rfl, ((Below.refl _ _).alloc (Nat.le_refl _) _).trans (hb.mono (by simp))⟩
  · have h : g_lkB m o d = false := by simpa using h
    have h' : ¬ (((2147483648 ≤ m ∧ m ≤ 3000000000) ∧ 3 ≤ o ∧ o < m) ∧ 3 ≤ d ∧ d < m) := of_decide_eq_false h
    have CO := fun w => g_cOpens m o w
    rw [h] at CL
    by_cases k : g_opB m o = true
    · have k' : (2147483648 ≤ m ∧ m ≤ 3000000000) ∧ 3 ≤ o ∧ o < m := of_decide_eq_true k
      rw [k] at CO
      by_cases hd : d = 0
      · have hq : g_okB m o d = true := g_dec_t ⟨k', .inl hd⟩
        rw [hq]
        have he : (d == 0) = true := by simpa using hd
        clear hq h h' k k' hd
        go_enter Try.func66, Try.ntmps66
        go_wp2_with fail
        refine (CL _).mono ?_
        rintro e w1 ⟨rfl, hb⟩
        obtain ⟨hc, hf⟩ := g_k_bcell hb
        have HB : Hid (Below w.heap.size w w1) := ((Below.refl _ _).alloc (Nat.le_refl _) _).trans (hb.mono (by simp))
        have hz : w.heap.size < w1.heap.size := by have := hb.size; simp at this; omega
        go_wp2_with fail
        refine (CO _).mono ?_
        rintro e w2 ⟨rfl, hb2⟩
        obtain ⟨hc2, hf2⟩ := g_k_bcell hb2
        go_wp2_with fail
        go_ret
        exact ⟨rfl, HB.out.trans (hb2.mono HB.out.size)⟩
      · have hq : g_okB m o d = false := g_dec_f (fun x => x.2.elim hd (fun y => h' ⟨k', y⟩))
        rw [hq]
        have he : (d == 0) = false := by simpa using hd
        clear hq h h' k k'
        go_enter Try.func66, Try.ntmps66
        go_wp2_with fail
        refine (CL _).mono ?_
        rintro e w1 ⟨rfl, hb⟩
        obtain ⟨hc, hf⟩ := g_k_bcell hb
        have HB : Hid (Below w.heap.size w w1) := ((Below.refl _ _).alloc (Nat.le_refl _) _).trans (hb.mono (by simp))
        have hz : w.heap.size < w1.heap.size := by have := hb.size; simp at this; omega
        go_wp2_with fail
        refine (CO _).mono ?_
        rintro e w2 ⟨rfl, hb2⟩
        obtain ⟨hc2, hf2⟩ := g_k_bcell hb2
        go_wp2_with fail
        go_ret
        exact ⟨rfl, HB.out.trans (hb2.mono HB.out.size)⟩
    · have k : g_opB m o = false := by simpa using k
      have k' : ¬ ((2147483648 ≤ m ∧ m ≤ 3000000000) ∧ 3 ≤ o ∧ o < m) := of_decide_eq_false k
      have hq : g_okB m o d = false := g_dec_f (fun x => k' x.1)
      rw [hq]
      rw [k] at CO
      clear hq h h' k k'
      go_enter Try.func66, Try.ntmps66
      go_wp2_with fail
      refine (CL _).mono ?_
      rintro e w1 ⟨rfl, hb⟩
      obtain ⟨hc, hf⟩ := g_k_bcell hb
      have HB : Hid (Below w.heap.size w w1) := ((Below.refl _ _).alloc (Nat.le_refl _) _).trans (hb.mono (by simp))
      have hz : w.heap.size < w1.heap.size := by have := hb.size; simp at this; omega
      go_wp2_with fail
      refine (CO _).mono ?_
      rintro e w2 ⟨rfl, hb2⟩
      go_wp2_with fail
      go_ret
      exact ⟨rfl, HB.out.trans (hb2.mono HB.out.size)⟩

theorem g_k_bb {w a b : World} (h : Below w.heap.size w a) (k : Below a.heap.size a b) : Below w.heap.size w b := h.trans (k.mono h.size)

theorem g_cKeyOkI (n e d : Int) (w : World) :
    Calls Try.prog 49 #[.agg #[.int .i64 n, .int .i64 e, .int .i64 d]] w fun x w' => x = .returned (.bool (g_okB n e d)) ∧ Below w.heap.size w w' := by
  have CW := fun w => g_cWholeOf n e d w
  have CK := fun w => g_cOk n e d w
  generalize g_okB n e d = B at *
  go_enter Try.func49, Try.ntmps49
  go_wp2_with fail
  refine (CW _).mono ?_
  rintro x w1 ⟨rfl, hb⟩
  have HB : Hid (Below w.heap.size w w1) := ((Below.refl _ _).alloc (Nat.le_refl _) _).trans (hb.mono (by simp))
  go_wp2_with fail
  refine (CK _).mono ?_
  rintro x w2 ⟨rfl, hb2⟩
  go_wp2_with fail
  go_ret
  exact ⟨rfl, g_k_bb HB.out hb2⟩

theorem g_cIn5 (x lo hi : Int) (w : World) :
    Calls Try.prog 44 #[.int .i64 x, .int .i64 lo, .int .i64 hi] w fun e w' => e = .returned (.bool (decide (lo ≤ x ∧ x ≤ hi))) ∧ w' = w := by
  go_enter Try.func44, Try.ntmps44
  go_wp2
  all_goals go_ret
  all_goals exact ⟨by congr 2; simp; try omega, rfl⟩

set_option maxHeartbeats 1000000 in
theorem g_cPubB (n e d : Int) (w : World) :
    Calls Try.prog 43 #[.agg #[.int .i64 n, .int .i64 e, .int .i64 d]] w fun x w' => x = .returned (.bool (g_opB n e)) ∧ Below w.heap.size w w' := by
  have C1 := fun w => g_cIn5 n 2147483648 3000000000 w
  by_cases hr : 2147483648 ≤ n ∧ n ≤ 3000000000
  · rw [g_dec_t hr] at C1
    have C2 := fun w => g_cIn5 e 3 (n - 1) w
    obtain ⟨B, hB⟩ : ∃ B, g_opB n e = B := ⟨_, rfl⟩
    have hq : decide (3 ≤ e ∧ e ≤ n - 1) = B := by
      rw [← hB]; unfold g_opB
      rw [Bool.eq_iff_iff]; simp [hr]; omega
    rw [hq] at C2
    rw [hB]
    have e1 : wrap64 (n - 1) = n - 1 := IntWalk.wrap64_in _ (by omega)
    have e2 : IntKind.i64.wrap (n - 1) = n - 1 := IntWalk.i64_in _ (by omega)
    clear hq hB
    go_enter Try.func43, Try.ntmps43
    go_wp2_with fail
    refine (C1 _).mono ?_
    rintro x w1 ⟨rfl, rfl⟩
    go_wp2_with fail
    refine (C2 _).mono ?_
    rintro x w1 ⟨rfl, rfl⟩
    go_wp2_with fail
    go_ret
    exact ⟨rfl, (Below.refl _ _).alloc (Nat.le_refl _) _⟩
  · rw [g_dec_f hr] at C1
    rw [show g_opB n e = false from g_dec_f (fun x => hr x.1)]
    clear hr
    go_enter Try.func43, Try.ntmps43
    go_wp2_with fail
    refine (C1 _).mono ?_
    rintro x w1 ⟨rfl, rfl⟩
    go_wp2_with fail
    go_ret
    exact ⟨rfl, (Below.refl _ _).alloc (Nat.le_refl _) _⟩

set_option maxHeartbeats 1000000 in
theorem g_cKeyOkS (n e d : Int) (w : World) :
    Calls Try.prog 20 #[.agg #[.int .i64 n, .int .i64 e, .int .i64 d]] w fun x w' => x = .returned (.bool (g_okB n e d)) ∧ Below w.heap.size w w' := by
  have C1 := fun w => g_cPubB n e d w
  by_cases h : g_opB n e = true
  · have h' : (2147483648 ≤ n ∧ n ≤ 3000000000) ∧ 3 ≤ e ∧ e < n := of_decide_eq_true h
    rw [h] at C1
    by_cases hd : d = 0
    · rw [show g_okB n e d = true from g_dec_t ⟨h', .inl hd⟩]
      have he : (d == 0) = true := by simpa using hd
      clear hd h h'
      go_enter Try.func20, Try.ntmps20
      go_wp2_with fail
      refine (C1 _).mono ?_
      rintro x w1 ⟨rfl, hb⟩
      obtain ⟨hc, hf⟩ := g_k_bcell hb
      go_wp2_with fail
      go_ret
      exact ⟨rfl, ((Below.refl _ _).alloc (Nat.le_refl _) _).trans (hb.mono (by simp))⟩
    · have C2 := fun w => g_cIn5 d 3 (n - 1) w
      obtain ⟨B, hB⟩ : ∃ B, g_okB n e d = B := ⟨_, rfl⟩
      have hq : decide (3 ≤ d ∧ d ≤ n - 1) = B := by
        rw [← hB]; unfold g_okB
        rw [Bool.eq_iff_iff]; simp [h', hd]; omega
      rw [hq] at C2
      rw [hB]
      have e1 : wrap64 (n - 1) = n - 1 := IntWalk.wrap64_in _ (by omega)
      have e2 : IntKind.i64.wrap (n - 1) = n - 1 := IntWalk.i64_in _ (by omega)
      have he : (d == 0) = false := by simpa using hd
      clear hd hq hB h h'
      go_enter Try.func20, Try.ntmps20
      go_wp2_with fail
      refine (C1 _).mono ?_
      rintro x w1 ⟨rfl, hb⟩
      obtain ⟨hc, hf⟩ := g_k_bcell hb
      have HB : Hid (Below w.heap.size w w1) := ((Below.refl _ _).alloc (Nat.le_refl _) _).trans (hb.mono (by simp))
      go_wp2_with fail
      refine (C2 _).mono ?_
      rintro x w2 ⟨rfl, rfl⟩
      go_wp2_with fail
      go_ret
      exact ⟨rfl, HB.out⟩
  · have h : g_opB n e = false := by simpa using h
    have h' : ¬ ((2147483648 ≤ n ∧ n ≤ 3000000000) ∧ 3 ≤ e ∧ e < n) := of_decide_eq_false h
    rw [h] at C1
    rw [show g_okB n e d = false from g_dec_f (fun x => h' x.1)]
    clear h h'
    go_enter Try.func20, Try.ntmps20
    go_wp2_with fail
    refine (C1 _).mono ?_
    rintro x w1 ⟨rfl, hb⟩
    go_wp2_with fail
    go_ret
    exact ⟨rfl, ((Below.refl _ _).alloc (Nat.le_refl _) _).trans (hb.mono (by simp))⟩

theorem g_cToKey (n e d : Int) (w : World) :
    Calls Try.prog 55 #[.agg #[.int .i64 n, .int .i64 e, .int .i64 d]] w fun x w' => x = .returned (.agg #[.int .i64 n, .int .i64 e, .int .i64 d]) ∧ Below w.heap.size w w' := by
  go_enter Try.func55, Try.ntmps55
  go_wp2
  refine bodyPost_ret (v := .agg #[.int .i64 n, .int .i64 e, .int .i64 d]) (by simp [results, Try.results55, go_sem]) rfl ⟨rfl, ?_⟩
  repeat first | exact Below.refl _ _ | refine Below.setCell ?_ (by simp; try omega) _ | refine Below.alloc ?_ (by simp; try omega) _

/-- A key is as it is. -/
theorem g_cEqKey (n e d : Int) (w : World) :
    Calls Try.prog 58 #[.agg #[.int .i64 n, .int .i64 e, .int .i64 d], .agg #[.int .i64 n, .int .i64 e, .int .i64 d]] w fun x w' => x = .returned (.bool true) ∧ Below w.heap.size w w' := by
  go_enter Try.func58, Try.ntmps58
  go_wp2
  go_ret
  refine ⟨rfl, ?_⟩
  repeat first | exact Below.refl _ _ | refine Below.setCell ?_ (by simp; try omega) _ | refine Below.alloc ?_ (by simp; try omega) _

def tmB (x : Int) : Bool := decide (0 ≤ x ∧ x ≤ 3155759999)
def g_skB (s : Int) : Bool := decide (0 ≤ s ∧ s ≤ 86400)

theorem g_cSkewI (s : Int) (w : World) :
    Calls Try.prog 27 #[.int .i64 s] w fun e w' => e = .returned (.bool (g_skB s)) ∧ w' = w := by
  go_enter Try.func27, Try.ntmps27
  go_wp2
  all_goals go_ret
  all_goals exact ⟨by unfold g_skB; congr 2; simp; try omega, rfl⟩

theorem g_cSkewS (s : Int) (w : World) :
    Calls Try.prog 21 #[.int .i64 s] w fun e w' => e = .returned (.bool (g_skB s)) ∧ w' = w := by
  go_enter Try.func21, Try.ntmps21
  go_wp2_with (go_at_call 44; refine (cIn _ _ _ _).mono ?_; rintro e w' ⟨rfl, rfl⟩)
  go_ret
  exact ⟨by unfold g_skB; congr 2; simp, rfl⟩

end Go.Proofs.Ytdgppdjjmpjgkaa
