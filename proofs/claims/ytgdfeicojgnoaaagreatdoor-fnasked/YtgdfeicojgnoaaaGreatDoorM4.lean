/- Ids, times and the order of texts: what tables lean on. Tables: what the document says of them, as functions of their fields. Words, keys and skews: what gates lean on. -/
import Derived.Test.YtgdfeicojgnoaaaGreatDoorM2
import Derived.Test.YtgdfeicojgnoaaaGreatDoorM3
import Derived.Laws.Cover1
namespace Go.Proofs.YtgdfeicojgnoaaaGreatDoor
open Go.RowKit
set_option linter.unusedVariables false
set_option linter.unusedSimpArgs false

/-- Every sign is one of these, and there are at most so many. -/
def u_ofB (signs : ByteArray) (most : Nat) (s : ByteArray) : Bool := s.data.toList.all (fun c => signs.data.toList.any fun d => decide (d = c)) && decide (s.size ≤ most)

def u_inB (signs : ByteArray) (c : UInt8) : Bool := signs.data.toList.any fun d => decide (d = c)

theorem u_u8_beq (a b : UInt8) : ((a.toNat : Int) == (b.toNat : Int)) = decide (a = b) := by
  by_cases h : a = b
  · subst h; simp
  · rw [decide_eq_false h]
    have : ¬ a.toNat = b.toNat := fun e => h (UInt8.toNat_inj.1 e)
    simp
    omega

set_option maxHeartbeats 2000000 in
theorem u_c_spec_l1Of (signs : ByteArray) (most : Nat) (s : ByteArray) (w : World) (hs : s.size ≤ 1048576) (hg : signs.size ≤ 256) (hm : most ≤ 1000) :
    Calls Tryz.prog 73 #[.string s, .string signs, .int .i64 (most : Int)] w fun e w' => e = .returned (.bool (u_ofB signs most s)) ∧ Below w.heap.size w w' := by
  obtain ⟨V, hV⟩ : ∃ V, u_ofB signs most s = V := ⟨_, rfl⟩
  have HV := hid hV
  rw [hV]
  clear hV
  go_enter Tryz.func73, Tryz.ntmps73
  go_wp2_with fail
  go_loopw [7] (fun k wr => ∃ i : Nat, k = .int .i64 (i : Int) ∧ i ≤ s.size ∧ Hid ((s.data.toList.take i).all (u_inB signs) = true) ∧ Hid (Below w.heap.size w wr)) (fun k _ => s.size - (intOf k).toNat)
  case atStart => exact ⟨0, rfl, Nat.zero_le _, rfl, Below.refl _ _⟩
  case round =>
    obtain ⟨i, rfl, hi, HA, HB⟩ := hrel
    by_cases hlt : i < s.size
    · have hin : (i : Int) < (s.size : Int) := by omega
      go_wp2_with fail
      go_loopw [8, 9] (fun v k wr => ∃ j : Nat, k = .int .i64 (j : Int) ∧ j ≤ signs.size ∧ v = .bool ((signs.data.toList.take j).any fun d => decide (d = s[i])) ∧ Hid (Below w.heap.size w wr)) (fun _ k _ => signs.size - (intOf k).toNat)
      case atStart => exact ⟨0, rfl, Nat.zero_le _, rfl, HB.out⟩
      case round =>
        clear HB
        obtain ⟨j, rfl, hj, rfl, HB⟩ := hrel
        by_cases hjl : j < signs.size
        · have hjn : (j : Int) < (signs.size : Int) := by omega
          have HE := hid (show (signs.data.toList.take (j + 1)).any (fun d => decide (d = s[i])) = ((signs.data.toList.take j).any (fun d => decide (d = s[i])) || decide (signs[j] = s[i])) by
            rw [take_snoc signs j hjl, List.any_append]
            simp)
          generalize (signs.data.toList.take j).any (fun d => decide (d = s[i])) = P at *
          have hq := u_u8_beq signs[j] s[i]
          generalize decide (signs[j] = s[i]) = D at *
          cases P
          · go_wp2_with fail
            go_quiet (fail)
            go_wp2_with fail
            go_roundw
            case rel => exact ⟨j + 1, by go_num, by omega, by rw [HE.out]; rfl, below_drewN HB.out _⟩
            case measure => simp [intOf]; omega
          · go_wp2_with fail
            go_quiet (fail)
            go_wp2_with fail
            go_roundw
            case rel => exact ⟨j + 1, by go_num, by omega, by rw [HE.out]; rfl, below_drewN HB.out _⟩
            case measure => simp [intOf]; omega
        · have hje : j = signs.size := by omega
          subst hje
          rw [take_full signs _ (by omega)]
          have HI := hid (show signs.data.toList.any (fun d => decide (d = s[i])) = u_inB signs s[i] from rfl)
          rw [HI.out]
          cases hP : u_inB signs s[i]
          · have HF := hid (show V = false by
              rw [← HV.out]
              unfold u_ofB
              rw [Bool.and_eq_false_imp]
              intro h
              have h2 := List.all_eq_true.1 h s[i] (List.getElem_mem _)
              have h3 : u_inB signs s[i] = true := h2
              rw [hP] at h3
              cases h3)
            clear hP
            go_wp2_with fail
            go_ret
            exact ⟨by rw [HF.out]; rfl, HB.out⟩
          · have HA2 := hid (show (s.data.toList.take (i + 1)).all (u_inB signs) = true by rw [take_snoc s i hlt, List.all_append, HA.out]; simp [hP])
            clear hP
            go_wp2_with fail
            go_roundw
            case rel => exact ⟨i + 1, by go_num, by omega, HA2.out, HB.out⟩
            case measure => simp [intOf]; omega
    · have hie : i = s.size := by omega
      subst hie
      have hA := HA.out
      rw [take_full s _ (by omega)] at hA
      have HF := hid (show V = decide (s.size ≤ most) by
        rw [← HV.out]
        unfold u_ofB
        have h : (s.data.toList.all fun c => signs.data.toList.any fun d => decide (d = c)) = true := hA
        rw [h, Bool.true_and])
      clear hA HA
      go_wp2_with fail
      go_ret
      exact ⟨by rw [HF.out]; rfl, HB.out⟩

theorem u_empty_is (s : ByteArray) : s.toList.isEmpty = decide (s.size = 0) := by
  have e : s.size = s.data.toList.length := rfl
  rw [ByteArray.toList_eq, e]
  cases s.data.toList <;> simp

theorem u_cDigit (c : Int) (w : World) (h0 : 0 ≤ c) (h1 : c ≤ 255) :
    Calls Tryz.prog 117 #[.int .u8 c] w fun e w' => e = .returned (.bool (decide (48 ≤ c) && decide (c ≤ 57))) ∧ w' = w := by
  go_enter Tryz.func117, Tryz.ntmps117
  go_wp2
  all_goals go_ret
  all_goals exact ⟨ret_bool (by rw [Bool.eq_iff_iff]; simp; try omega), rfl⟩

def u_idS : ByteArray := ⟨#[73, 100]⟩
def u_idLS : ByteArray := ⟨#[97, 98, 99, 100, 101, 102, 103, 104, 105, 106, 107, 108, 109, 110, 111, 112, 113, 114, 115, 116, 117, 118, 119, 120, 121, 122, 48, 49, 50, 51, 52, 53, 54, 55, 56, 57]⟩

/-- A text that may be an identifier. -/
def u_idOk (s : ByteArray) : Bool := !decide (s.size = 0) && u_ofB u_idLS 12 s

/-- A sign that may stand in an identifier. -/
def u_inIB (c : Int) : Bool := (decide (97 ≤ c) && decide (c ≤ 122)) || (decide (48 ≤ c) && decide (c ≤ 57))

theorem u_inIB_all : ∀ n : Fin 256, u_inB u_idLS (UInt8.ofNat n.val) = u_inIB (n.val : Int) := by decide +kernel

theorem u_inIB_is (c : UInt8) : u_inB u_idLS c = u_inIB c.toNat := by
  have h := u_inIB_all ⟨c.toNat, c.toNat_lt⟩
  have e : UInt8.ofNat c.toNat = c := by simp
  rw [e] at h
  exact h

set_option maxHeartbeats 1000000 in
theorem u_cInId (c : Int) (w : World) (h0 : 0 ≤ c) (h1 : c ≤ 255) :
    Calls Tryz.prog 154 #[.int .u8 c] w fun e w' => e = .returned (.bool (u_inIB c)) ∧ w' = w := by
  go_enter Tryz.func154, Tryz.ntmps154
  go_wp2_with (go_at_call 117; refine (u_cDigit _ _ h0 h1).mono ?_; rintro e w' ⟨rfl, rfl⟩)
  all_goals go_ret
  all_goals exact ⟨ret_bool (by rw [Bool.eq_iff_iff]; simp [u_inIB]; try omega), rfl⟩

/-- All signs may stand in an identifier. -/
def u_allId (l : List UInt8) : Bool := l.all fun c => u_inIB c.toNat

theorem u_allId_is (l : List UInt8) : (l.all fun c => u_idLS.data.toList.any fun d => decide (d = c)) = u_allId l := by
  unfold u_allId
  congr 1
  funext c
  exact u_inIB_is c

theorem u_allId_snoc (s : ByteArray) (k : Nat) (h : k < s.size) : u_allId (s.data.toList.take (k + 1)) = (u_allId (s.data.toList.take k) && u_inIB s[k].toNat) := by
  unfold u_allId
  rw [take_snoc s k h, List.all_append]
  simp

theorem u_allId_no (s : ByteArray) (k : Nat) (h : k < s.size) (hc : u_inIB s[k].toNat = false) : u_allId s.data.toList = false := by
  cases hA : u_allId s.data.toList with
  | false => rfl
  | true =>
    have := List.all_eq_true.1 hA s[k] (List.getElem_mem _)
    rw [hc] at this
    cases this

set_option maxHeartbeats 1000000 in
theorem u_cAllId (s : ByteArray) (w : World) (hs : s.size ≤ 1048576) :
    Calls Tryz.prog 79 #[.string s, .func (.func 154) #[] #[]] w fun e w' => e = .returned (.bool (u_allId s.data.toList)) ∧ w' = w := by
  go_enter Tryz.func79, Tryz.ntmps79
  go_wp2
  go_loop [8] (fun i => ∃ k : Nat, k ≤ s.size ∧ i = .int .i64 k ∧ Hid (u_allId (s.data.toList.take k) = true)) (fun i => s.size - (intOf i).toNat)
  case atStart => exact ⟨0, Nat.zero_le _, rfl, rfl⟩
  case round =>
    obtain ⟨k, hk, rfl, HP⟩ := hrel
    by_cases hlt : k < s.size
    · have hb : (s[k].toNat : Int) ≤ 255 := by have := s[k].toNat_lt; omega
      cases hc : u_inIB s[k].toNat
      · go_wp2_with (go_at_call 154; refine (u_cInId _ _ (by omega) hb).mono ?_; rintro e w' ⟨rfl, rfl⟩)
        go_ret
        exact ⟨ret_bool (u_allId_no s k hlt hc).symm, rfl⟩
      · go_wp2_with (go_at_call 154; refine (u_cInId _ _ (by omega) hb).mono ?_; rintro e w' ⟨rfl, rfl⟩)
        go_round
        case rel => exact ⟨k + 1, by omega, by go_num, by show u_allId _ = true; rw [u_allId_snoc s k hlt, HP.out, hc]; rfl⟩
        case measure => simp [intOf]; omega
    · go_wp2
      go_ret
      exact ⟨ret_bool (by rw [← take_full s k hlt]; exact HP.out.symm), rfl⟩

theorem u_idOk_is (s : ByteArray) : u_idOk s = (decide (1 ≤ s.size) && (decide (s.size ≤ 12) && u_allId s.data.toList)) := by
  unfold u_idOk u_ofB
  rw [u_allId_is, Bool.and_comm (u_allId s.data.toList)]
  have e : (!decide (s.size = 0)) = decide (1 ≤ s.size) := by
    by_cases h : s.size = 0
    · rw [decide_eq_true h, decide_eq_false (show ¬ 1 ≤ s.size by omega)]; rfl
    · rw [decide_eq_false h, decide_eq_true (show 1 ≤ s.size by omega)]; rfl
  rw [e]

set_option maxHeartbeats 2000000 in
theorem u_cIdOk (s : ByteArray) (w : World) (hs : s.size ≤ 1048576) :
    Calls Tryz.prog 136 #[.string s] w fun e w' => e = .returned (.bool (u_idOk s)) ∧ w' = w := by
  have C := hid (fun wx => u_cAllId s wx hs)
  rw [u_idOk_is]
  generalize u_allId s.data.toList = M at *
  by_cases h1 : 1 ≤ s.size
  · rw [decide_eq_true h1]
    have h1' : (1 : Int) ≤ (s.size : Int) := by omega
    by_cases h12 : s.size ≤ 12
    · rw [decide_eq_true h12]
      have h12' : (s.size : Int) ≤ 12 := by omega
      go_enter Tryz.func136, Tryz.ntmps136
      go_wp2_with fail
      refine (C.out _).mono ?_
      rintro e w1 ⟨rfl, rfl⟩
      go_wp2_with fail
      go_ret
      exact ⟨by simp, rfl⟩
    · rw [decide_eq_false h12]
      have h12' : ¬ (s.size : Int) ≤ 12 := by omega
      go_enter Tryz.func136, Tryz.ntmps136
      go_wp2_with fail
      go_ret
      exact ⟨by simp, rfl⟩
  · rw [decide_eq_false h1]
    have h1' : ¬ (1 : Int) ≤ (s.size : Int) := by omega
    go_enter Tryz.func136, Tryz.ntmps136
    go_wp2_with fail
    go_ret
    exact ⟨by simp, rfl⟩

set_option maxHeartbeats 2000000 in
theorem u_c_spec_l12Id (s : ByteArray) (w : World) (hs : s.size ≤ 1048576) :
    Calls Tryz.prog 34 #[.string s] w fun e w' => e = .returned (.bool (u_idOk s)) ∧ Below w.heap.size w w' := by
  have C := hid (fun wx => u_c_spec_l1Of u_idLS 12 s wx hs (by decide) (by decide))
  have E := u_empty_is s
  unfold u_idOk
  generalize u_ofB u_idLS 12 s = V at *
  cases q : decide (s.size = 0) with
  | true =>
    rw [q] at E
    clear q hs
    go_enter Tryz.func34, Tryz.ntmps34
    go_wp2_with fail
    go_ret
    exact ⟨rfl, Below.refl _ _⟩
  | false =>
    rw [q] at E
    clear q hs
    go_enter Tryz.func34, Tryz.ntmps34
    go_wp2_with fail
    refine (C.out _).mono ?_
    rintro e w1 ⟨rfl, hb1⟩
    have HB1 := hid hb1
    clear hb1 C
    go_wp2_with fail
    go_ret
    exact ⟨rfl, HB1.out⟩

/-- Is the one text ahead of the other? -/
def u_ltB (a b : ByteArray) : Bool := Op.bytesLess a.toList b.toList

theorem u_bl_irr : ∀ x : List UInt8, Op.bytesLess x x = false
  | [] => rfl
  | a :: x => by
    unfold Op.bytesLess
    rw [u_bl_irr x]
    simp

theorem u_bl_trans : ∀ x y z : List UInt8, Op.bytesLess x y = true → Op.bytesLess y z = true → Op.bytesLess x z = true
  | [], [], _, h, _ => by simp [Op.bytesLess] at h
  | [], _ :: _, [], _, h => by simp [Op.bytesLess] at h
  | [], _ :: _, _ :: _, _, _ => by simp [Op.bytesLess]
  | _ :: _, [], _, h, _ => by simp [Op.bytesLess] at h
  | _ :: _, _ :: _, [], _, h => by simp [Op.bytesLess] at h
  | a :: x, b :: y, c :: z, h, g => by
    unfold Op.bytesLess at h g ⊢
    simp only [Bool.or_eq_true, decide_eq_true_eq, Bool.and_eq_true, beq_iff_eq] at h g ⊢
    rcases h with h | ⟨rfl, h⟩
    · rcases g with g | ⟨rfl, g⟩
      · exact .inl (UInt8.lt_trans h g)
      · exact .inl h
    · rcases g with g | ⟨rfl, g⟩
      · exact .inl g
      · exact .inr ⟨rfl, u_bl_trans x y z h g⟩

theorem u_bl_tri : ∀ x y : List UInt8, Op.bytesLess x y = false → Op.bytesLess y x = false → x = y
  | [], [], _, _ => rfl
  | [], _ :: _, h, _ => by simp [Op.bytesLess] at h
  | _ :: _, [], _, h => by simp [Op.bytesLess] at h
  | a :: x, b :: y, h, g => by
    unfold Op.bytesLess at h g
    simp only [Bool.or_eq_false_iff, decide_eq_false_iff_not, Bool.and_eq_false_iff, beq_eq_false_iff_ne] at h g
    have e : a = b := by
      have h1 := UInt8.not_lt.1 h.1
      have h2 := UInt8.not_lt.1 g.1
      exact UInt8.le_antisymm h2 h1
    subst e
    have h3 : Op.bytesLess x y = false := h.2.resolve_left (fun q => q rfl)
    have g3 : Op.bytesLess y x = false := g.2.resolve_left (fun q => q rfl)
    rw [u_bl_tri x y h3 g3]

theorem u_ltB_irr (x : ByteArray) : u_ltB x x = false := u_bl_irr _

theorem u_ltB_trans {x y z : ByteArray} (h : u_ltB x y = true) (g : u_ltB y z = true) : u_ltB x z = true := u_bl_trans _ _ _ h g

theorem u_ltB_tri {x y : ByteArray} (h : u_ltB x y = false) (g : u_ltB y x = false) : x = y := by
  have e := u_bl_tri _ _ h g
  have := str_beq x y
  rw [e] at this
  simpa using this.symm

theorem u_blk_below {w w1 : World} {B : Nat} {o : Obj} (h : w.heap[B]? = some o) (k : Below w.heap.size w w1) : w1.heap[B]? = some o := (k.block B (lt_of_heap h)).trans h

theorem u_blk_alloc {w : World} {B : Nat} {o : Obj} (h : w.heap[B]? = some o) (o' : Obj) : (w.alloc o').heap[B]? = some o := (Below.heap_alloc w o' B (lt_of_heap h)).trans h

/-- All blocks that are not of these stand as they stood. -/
structure u_KeepB (p : Nat → Prop) (w w' : World) : Prop where
  os : w'.os = w.os
  tape : w'.tape = w.tape
  output : w'.output = w.output
  size : w.heap.size ≤ w'.heap.size
  block : ∀ k, k < w.heap.size → ¬ p k → w'.heap[k]? = w.heap[k]?

theorem u_KeepB.refl (p : Nat → Prop) (w : World) : u_KeepB p w w := ⟨rfl, rfl, rfl, Nat.le_refl _, fun _ _ _ => rfl⟩

theorem u_KeepB.trans {p : Nat → Prop} {a b c : World} (h : u_KeepB p a b) (k : u_KeepB p b c) : u_KeepB p a c :=
  ⟨k.os.trans h.os, k.tape.trans h.tape, k.output.trans h.output, Nat.le_trans h.size k.size, fun i hi hr => (k.block i (Nat.lt_of_lt_of_le hi h.size) hr).trans (h.block i hi hr)⟩

theorem u_KeepB.of_below (p : Nat → Prop) {w w' : World} (h : Below w.heap.size w w') : u_KeepB p w w' := ⟨h.os, h.tape, h.output, h.size, fun i hi _ => h.block i hi⟩

theorem u_KeepB.of_grown {p : Nat → Prop} {w w' : World} {g : Nat} (h : w.grownBy w' (some g)) (hp : p g) : u_KeepB p w w' :=
  ⟨h.os, h.tape, h.output, h.size, fun i hi hr => h.block i hi (fun e => hr (by rw [Option.some.inj e]; exact hp))⟩

theorem u_KeepB.of_set {p : Nat → Prop} (w : World) {g : Nat} (i : Nat) (v : Value) (hp : p g) : u_KeepB p w (w.setCell ⟨g, i, none⟩ v) := u_KeepB.of_grown (Lib.grownBy_setCell w g i v) hp

theorem u_KeepB.mono {p q : Nat → Prop} {w w' : World} (h : u_KeepB p w w') (hq : ∀ k, p k → q k) : u_KeepB q w w' := ⟨h.os, h.tape, h.output, h.size, fun i hi hr => h.block i hi (fun e => hr (hq i e))⟩

theorem u_KeepB.below {p : Nat → Prop} {w w' : World} {B : Nat} (h : u_KeepB p w w') (hB : B ≤ w.heap.size) (hp : ∀ k, p k → B ≤ k) : Below B w w' :=
  ⟨h.os, h.tape, h.output, h.size, fun i hi => h.block i (by omega) (fun e => by have := hp i e; omega)⟩

theorem u_box2c {w : World} {g : Nat} {x y : Value} {T : TypeId} (h : w.heap[g]? = some (.cells #[x, y] T (0, 0))) : w.cell? ⟨g, 0, none⟩ = some x ∧ w.cell? ⟨g, 1, none⟩ = some y :=
  ⟨by rw [Lib.cell_of_heap h]; rfl, by rw [Lib.cell_of_heap h]; rfl⟩

theorem u_own_len {w : World} {B : Nat} {E : TypeId} {s n : Nat} {v : Value} {xs : List Value} (h : w.ownsRow B E s v n xs) : ∃ a c, v = .slice a n c := by
  rcases h.2 with ⟨rfl, rfl⟩ | ⟨g, cap, cur, rfl, _⟩
  · exact ⟨none, 0, rfl⟩
  · exact ⟨_, _, rfl⟩

theorem u_own_pos {w : World} {B : Nat} {E : TypeId} {s n : Nat} {v : Value} {xs : List Value} (h : w.ownsRow B E s v n xs) (hn : 0 < n) : ∃ b c, v = .slice (some ⟨b, 0, none⟩) n c ∧ b < w.heap.size ∧ B ≤ b ∧ n ≤ c ∧ ∀ j, j < n * s → w.cell? ⟨b, j, none⟩ = xs[j]? := by
  rcases h.2 with ⟨rfl, rfl⟩ | ⟨g, cap, cur, rfl, hB, hh, hc, _, hs, ht⟩
  · omega
  · refine ⟨g, cap, rfl, lt_of_heap hh, hB, hc, fun j hj => ?_⟩
    rw [Lib.cell_of_heap hh, ← ht, List.getElem?_take, if_pos hj, Array.getElem?_toList]

def u_digB (k : Nat) : UInt8 := UInt8.ofNat (48 + k % 10)

def u_decB (k : Nat) (out : ByteArray) : ByteArray := if h : k = 0 then out else u_decB (k / 10) ((⟨#[u_digB k]⟩ : ByteArray) ++ out)
termination_by k
decreasing_by omega

theorem u_decB_zero (out : ByteArray) : u_decB 0 out = out := by unfold u_decB; simp

theorem u_decB_step {k : Nat} (h : ¬ k = 0) (out : ByteArray) : u_decB k out = u_decB (k / 10) ((⟨#[u_digB k]⟩ : ByteArray) ++ out) := by rw [u_decB]; simp [h]

/-- The text of a mark. -/
def u_markS (k : Nat) : ByteArray := if k = 0 then ⟨#[109, 48]⟩ else (⟨#[109]⟩ : ByteArray) ++ u_decB k ⟨#[]⟩

theorem u_decB_size : ∀ (k : Nat) (out : ByteArray), (u_decB k out).size ≤ k + out.size := by
  intro k
  induction k using Nat.strongRecOn with
  | _ k ih =>
    intro out
    by_cases h : k = 0
    · subst h; rw [u_decB_zero]; omega
    · rw [u_decB_step h]
      have := ih (k / 10) (by omega) ((⟨#[u_digB k]⟩ : ByteArray) ++ out)
      rw [ByteArray.size_append, show (⟨#[u_digB k]⟩ : ByteArray).size = 1 from rfl] at this
      omega

theorem u_markS_size (k : Nat) : (u_markS k).size ≤ k + 2 := by
  unfold u_markS
  split
  · show 2 ≤ k + 2
    omega
  · rw [ByteArray.size_append, show (⟨#[109]⟩ : ByteArray).size = 1 from rfl]
    have := u_decB_size k ⟨#[]⟩
    rw [show (⟨#[]⟩ : ByteArray).size = 0 from rfl] at this
    omega

theorem u_conv1 (W : World) (b : UInt8) : (convert 22 9 (.slice (some ⟨W.heap.size, 0, none⟩) 1 1)).run Tryz.prog (W.alloc (.cells #[.int .u8 b.toNat] 5)) = .ok (.string ⟨#[b]⟩) (W.alloc (.cells #[.int .u8 b.toNat] 5)) := by
  have hown : (W.alloc (.cells #[.int .u8 b.toNat] 5)).ownsRow 0 5 1 (.slice (some ⟨W.heap.size, 0, none⟩) [b].length 1) [b].length (Lib.byteCells [b]) :=
    ⟨rfl, .inr ⟨W.heap.size, 1, #[.int .u8 b.toNat], rfl, Nat.zero_le _, heap_alloc_new W _, Nat.le_refl _, by decide, rfl, rfl⟩⟩
  exact run_str_own (P := Tryz.prog) (src := 22) (dst := 9) Tryz.underlying22 Tryz.underlying5 Tryz.underlying9 hown

theorem u_dig_wrap (k : Nat) : IntKind.u8.wrap (48 + (k : Int) % 10) = ((u_digB k).toNat : Int) := by
  have e : (u_digB k).toNat = 48 + k % 10 := by
    unfold u_digB
    rw [UInt8.toNat_ofNat']
    omega
  rw [e]
  rw [show (48 : Int) + (k : Int) % 10 = ((48 + k % 10 : Nat) : Int) by omega]
  exact IntWalk.u8_in _ (by omega)

set_option maxRecDepth 100000 in
set_option maxHeartbeats 1000000 in
theorem u_cMarkText (k : Nat) (hk : k ≤ 1000000000) (w : World) :
    Calls Tryz.prog 90 #[.int .i64 k] w fun e w' => e = .returned (.string (u_markS k)) ∧ Below w.heap.size w w' := by
  by_cases h0 : k = 0
  · subst h0
    rw [show u_markS 0 = ⟨#[109, 48]⟩ from rfl]
    go_enter Tryz.func90, Tryz.ntmps90
    go_wp2
    go_ret
    exact ⟨rfl, Below.refl _ _⟩
  · have hd : decide ((k : Int) ≤ 0) = false := by simp; omega
    obtain ⟨V, hV⟩ : ∃ V, u_markS k = V := ⟨_, rfl⟩
    have HV := hid (show (⟨#[109]⟩ : ByteArray) ++ u_decB k ⟨#[]⟩ = V by rw [← hV]; unfold u_markS; rw [if_neg h0])
    rw [hV]
    clear hV
    go_enter Tryz.func90, Tryz.ntmps90
    go_wp2_with fail
    clear hd h0
    go_loopw [0, 3] (fun x y wr => ∃ (m : Nat) (out : ByteArray), x = .int .i64 (m : Int) ∧ m ≤ 1000000000 ∧ y = .string out ∧ out.size + m ≤ 1000000000 ∧ Hid (u_decB m out = u_decB k ⟨#[]⟩) ∧ Hid (Below w.heap.size w wr)) (fun x _ _ => (intOf x).toNat)
    case atStart => exact ⟨k, ⟨#[]⟩, rfl, hk, rfl, by show 0 + k ≤ 1000000000; omega, rfl, Below.refl _ _⟩
    case round =>
      obtain ⟨m, out, rfl, hm, rfl, hs, HD, HB⟩ := hrel
      by_cases hz : m = 0
      · subst hz
        have HW := hid (show (⟨#[109]⟩ : ByteArray) ++ out = V by rw [← HV.out, ← HD.out, u_decB_zero])
        go_wp2_with fail
        go_ret
        exact ⟨by rw [← HW.out]; rfl, HB.out⟩
      · have hp : decide ((0 : Int) < (m : Int)) = true := by simp; omega
        have hd := u_dig_wrap m
        have hc := u_conv1 wr (u_digB m)
        have HN := hid (show u_decB (m / 10) ((⟨#[u_digB m]⟩ : ByteArray) ++ out) = u_decB k ⟨#[]⟩ by rw [← u_decB_step hz]; exact HD.out)
        have hq : (m : Int).tdiv 10 = ((m / 10 : Nat) : Int) := (Int.ofNat_tdiv m 10).symm
        have hr : (m : Int).tmod 10 = (m : Int) % 10 := Int.tmod_eq_emod_of_nonneg (by omega)
        generalize u_digB m = D at *
        go_wp2_with fail
        go_roundw
        case rel => exact ⟨m / 10, (⟨#[D]⟩ : ByteArray) ++ out, by first | rfl | rw [← hq] | simp, by omega, rfl, by rw [ByteArray.size_append, show (⟨#[D]⟩ : ByteArray).size = 1 from rfl]; omega, HN.out, HB.out.alloc HB.out.size _⟩
        case measure => simp [intOf]; omega

theorem u_gr_trans {w w1 w2 : World} {row : Option Nat} (h : w.grownBy w1 row) (k : w1.grownBy w2 row) : w.grownBy w2 row :=
  ⟨k.os.trans h.os, k.tape.trans h.tape, k.output.trans h.output, Nat.le_trans h.size k.size, fun i hi hr => (k.block i (Nat.lt_of_lt_of_le hi h.size) hr).trans (h.block i hi hr)⟩

theorem u_gr_below {w w1 w2 : World} {row : Option Nat} (h : w.grownBy w1 row) (k : Below w1.heap.size w1 w2) : w.grownBy w2 row :=
  ⟨k.os.trans h.os, k.tape.trans h.tape, k.output.trans h.output, Nat.le_trans h.size k.size, fun i hi hr => (k.block i (Nat.lt_of_lt_of_le hi h.size)).trans (h.block i hi hr)⟩

theorem u_gr_set {w w1 : World} {b : Nat} (h : w.grownBy w1 (some b)) (j : Nat) (v : Value) : w.grownBy (w1.setCell ⟨b, j, none⟩ v) (some b) := u_gr_trans h (Lib.grownBy_setCell w1 b j v)

/-- A store into a row of cells. -/
theorem u_heap_set {w : World} {g i : Nat} {cur : Array Value} {T : TypeId} (h : w.heap[g]? = some (.cells cur T (0, 0))) (v : Value) :
    (w.setCell ⟨g, i, none⟩ v).heap[g]? = some (.cells (cur.setIfInBounds i v) T (0, 0)) := by
  simp [World.setCell, Array.getElem?_modify, h]

theorem u_cell_there {w : World} {g i : Nat} {cur : Array Value} {T : TypeId} (h : w.heap[g]? = some (.cells cur T (0, 0))) (hi : i < cur.size) : ∃ v, w.cell? ⟨g, i, none⟩ = some v := by
  rw [Lib.cell_of_heap h]
  exact ⟨cur[i], Array.getElem?_eq_getElem hi⟩

end Go.Proofs.YtgdfeicojgnoaaaGreatDoor

namespace Go.Proofs.YtgdfeicojgnoaaaGreatDoor
open Go.RowKit
set_option linter.unusedVariables false
set_option linter.unusedSimpArgs false

/-- A row of a table. -/
structure Ro where
  id : ByteArray
  til : Int

/-- A table. -/
structure Tb where
  most : Int
  rows : List Ro

/-- A table as a value, its rows in that row. -/
def tbV (t : Tb) (a : Option Addr) (cap : Nat) : Value := .agg #[.int .i64 t.most, .slice a t.rows.length cap]

/-- The rows lie in a row from a on. -/
def RoRow (w : World) (a : Option Addr) (l : List Ro) : Prop :=
  ∀ j (h : j < l.length), ∃ b o, a = some ⟨b, o, none⟩ ∧ b < w.heap.size ∧ w.cell? ⟨b, o + j * 2, none⟩ = some (.string l[j].id) ∧ w.cell? ⟨b, o + j * 2 + 1, none⟩ = some (.int .i64 l[j].til)

theorem RoRow.below {w w' : World} {a : Option Addr} {l : List Ro} (h : RoRow w a l) (hb : Below w.heap.size w w') : RoRow w' a l := by
  intro j hj
  obtain ⟨b, o, ha, hlt, hc, hd⟩ := h j hj
  exact ⟨b, o, ha, Nat.lt_of_lt_of_le hlt hb.size, (hb.cell (p := ⟨b, o + j * 2, none⟩) hlt).trans hc, (hb.cell (p := ⟨b, o + j * 2 + 1, none⟩) hlt).trans hd⟩

theorem RoRow.nil (w : World) (a : Option Addr) : RoRow w a [] := fun j h => absurd h (Nat.not_lt_zero _)

/-- The rows lie in these cells, from o on. -/
def RoCells (cu : Array Value) (o : Nat) (l : List Ro) : Prop := ∀ m (h : m < l.length), cu[o + m * 2]? = some (.string l[m].id) ∧ cu[o + m * 2 + 1]? = some (.int .i64 l[m].til)

theorem RoCells.row {w : World} {g o : Nat} {cu : Array Value} {T : TypeId} {l : List Ro} (h : RoCells cu o l) (hh : w.heap[g]? = some (.cells cu T (0, 0))) : RoRow w (some ⟨g, o, none⟩) l := fun j hj =>
  ⟨g, o, rfl, lt_of_heap hh, by rw [Lib.cell_of_heap hh]; exact (h j hj).1, by rw [Lib.cell_of_heap hh]; exact (h j hj).2⟩

/-- Ids of at most so many bytes. -/
def RoSz (n : Nat) (l : List Ro) : Prop := ∀ x ∈ l, x.id.size ≤ n

theorem RoSz.take {n : Nat} {l : List Ro} (h : RoSz n l) (k : Nat) : RoSz n (l.take k) := fun x hx => h x (List.mem_of_mem_take hx)
theorem RoSz.drop {n : Nat} {l : List Ro} (h : RoSz n l) (k : Nat) : RoSz n (l.drop k) := fun x hx => h x (List.mem_of_mem_drop hx)
theorem RoSz.mono {n m : Nat} {l : List Ro} (h : RoSz n l) (k : n ≤ m) : RoSz m l := fun x hx => Nat.le_trans (h x hx) k

def utmB (x : Int) : Bool := decide (0 ≤ x ∧ x ≤ 3155759999)

/-- A right row. -/
def roB (x : Ro) : Bool := u_idOk x.id && utmB x.til

/-- The row there is right, and its id is greater than the one ahead. -/
def RoAt (l : List Ro) (i : Nat) (h : i < l.length) : Prop := roB l[i] = true ∧ (0 < i → u_ltB (l[i - 1]'(by omega)).id l[i].id = true)

def RowsP (l : List Ro) (e : Nat) : Prop := ∀ (i : Nat) (h : i < l.length), i < e → RoAt l i h

noncomputable def rowsB (l : List Ro) : Bool := open Classical in decide (RowsP l l.length)

theorem rowsP_zero (l : List Ro) : RowsP l 0 := fun i _ h => absurd h (Nat.not_lt_zero _)

theorem rowsP_next {l : List Ro} {e : Nat} (hP : RowsP l e) (he : e < l.length) (h : RoAt l e he) : RowsP l (e + 1) := fun i hi hlt => by
  rcases Nat.lt_or_eq_of_le (Nat.le_of_lt_succ hlt) with h' | rfl
  · exact hP i hi h'
  · exact h

theorem rowsB_f {l : List Ro} {i : Nat} (h : i < l.length) (hb : ¬ RoAt l i h) : rowsB l = false := by
  unfold rowsB
  have : ¬ RowsP l l.length := fun hP => hb (hP i h h)
  simp [this]

theorem rowsB_t {l : List Ro} (h : RowsP l l.length) : rowsB l = true := by
  unfold rowsB
  simp [h]

theorem rowsB_p {l : List Ro} (h : rowsB l = true) : RowsP l l.length := by
  unfold rowsB at h
  simpa using h

def mostB (x : Int) : Bool := decide (1 ≤ x ∧ x ≤ 20)

noncomputable def tableB (t : Tb) : Bool := mostB t.most && decide ((t.rows.length : Int) ≤ t.most) && rowsB t.rows

theorem tableB_p {t : Tb} (h : tableB t = true) : (1 ≤ t.most ∧ t.most ≤ 20) ∧ (t.rows.length : Int) ≤ t.most ∧ RowsP t.rows t.rows.length := by
  unfold tableB mostB at h
  simp only [Bool.and_eq_true, decide_eq_true_eq] at h
  exact ⟨h.1.1, h.1.2, rowsB_p h.2⟩

theorem tableB_mk {t : Tb} (h1 : 1 ≤ t.most ∧ t.most ≤ 20) (h2 : (t.rows.length : Int) ≤ t.most) (h3 : RowsP t.rows t.rows.length) : tableB t = true := by
  unfold tableB mostB
  rw [decide_eq_true h1, decide_eq_true h2, rowsB_t h3]
  rfl

theorem tableB_len {t : Tb} (h : tableB t = true) : t.rows.length ≤ 20 := by
  obtain ⟨h1, h2, _⟩ := tableB_p h
  omega

theorem u_idOk_len {s : ByteArray} (h : u_idOk s = true) : s.size ≤ 12 := by
  unfold u_idOk u_ofB at h
  simp only [Bool.and_eq_true, decide_eq_true_eq] at h
  exact h.2.2

theorem tableB_sz {t : Tb} (h : tableB t = true) : RoSz 12 t.rows := fun x hx => by
  obtain ⟨i, hi, rfl⟩ := List.getElem_of_mem hx
  have h1 := ((tableB_p h).2.2 i hi hi).1
  unfold roB at h1
  simp only [Bool.and_eq_true] at h1
  exact u_idOk_len h1.1

/-- The ids rise. -/
theorem rise {l : List Ro} {e : Nat} (hP : RowsP l e) : ∀ {j i : Nat} (hi : i < l.length) (hj : j < i), i < e → u_ltB (l[j]'(by omega)).id l[i].id = true := by
  intro j i
  induction i with
  | zero => intro _ hj; exact absurd hj (Nat.not_lt_zero _)
  | succ i ih =>
    intro hi hj he
    have h1 := (hP (i + 1) hi he).2 (Nat.succ_pos _)
    have h1' : u_ltB (l[i]'(by omega)).id l[i + 1].id = true := h1
    rcases Nat.lt_or_eq_of_le (Nat.le_of_lt_succ hj) with h | h
    · exact u_ltB_trans (ih (by omega) h (by omega)) h1'
    · subst h
      exact h1'

/-- Where a row of that id is, or would be. -/
def findR (l : List Ro) (id : ByteArray) : Nat := (l.takeWhile fun x => u_ltB x.id id).length

theorem findR_le (l : List Ro) (id : ByteArray) : findR l id ≤ l.length := (List.takeWhile_sublist _).length_le

theorem findR_at {l : List Ro} {id : ByteArray} {k : Nat} (hk : k ≤ l.length) (h : ∀ j (hj : j < k), u_ltB (l[j]'(by omega)).id id = true) (he : ∀ (q : k < l.length), u_ltB l[k].id id = false) : findR l id = k := by
  unfold findR
  induction l generalizing k with
  | nil =>
    simp only [List.length_nil] at hk
    rw [List.takeWhile_nil, List.length_nil]
    omega
  | cons x l ih =>
    match k with
    | 0 =>
      have h0 : u_ltB x.id id = false := he (Nat.succ_pos _)
      rw [List.takeWhile_cons_of_neg (by rw [h0]; exact Bool.false_ne_true)]
      rfl
    | k + 1 =>
      have h0 : u_ltB x.id id = true := h 0 (Nat.succ_pos _)
      rw [List.takeWhile_cons_of_pos (by exact h0), List.length_cons, ih (k := k) (by simpa using hk) (fun j hj => h (j + 1) (by omega)) (fun q => he (by simpa using q))]

theorem findR_lt {l : List Ro} {id : ByteArray} : ∀ {j : Nat} (hj : j < findR l id), u_ltB (l[j]'(Nat.lt_of_lt_of_le hj (findR_le l id))).id id = true := by
  unfold findR
  induction l with
  | nil => intro j hj; simp at hj
  | cons x l ih =>
    intro j hj
    cases h0 : u_ltB x.id id with
    | false =>
      rw [List.takeWhile_cons_of_neg (by rw [h0]; exact Bool.false_ne_true)] at hj
      exact absurd hj (Nat.not_lt_zero _)
    | true =>
      match j with
      | 0 => exact h0
      | j + 1 =>
        rw [List.takeWhile_cons_of_pos (by exact h0), List.length_cons] at hj
        exact ih (by omega)

theorem findR_ge {l : List Ro} {id : ByteArray} (h : findR l id < l.length) : u_ltB (l[findR l id]).id id = false := by
  unfold findR at h ⊢
  induction l with
  | nil => simp at h
  | cons x l ih =>
    cases h0 : u_ltB x.id id with
    | false =>
      have e : List.takeWhile (fun x => u_ltB x.id id) (x :: l) = [] := List.takeWhile_cons_of_neg (by rw [h0]; exact Bool.false_ne_true)
      simp only [e, List.length_nil, List.getElem_cons_zero]
      exact h0
    | true =>
      have e : List.takeWhile (fun x => u_ltB x.id id) (x :: l) = x :: List.takeWhile (fun x => u_ltB x.id id) l := List.takeWhile_cons_of_pos (by exact h0)
      simp only [e, List.length_cons, List.getElem_cons_succ]
      exact ih (by rw [e] at h; simpa using h)

/-- Is it there? -/
noncomputable def isR (l : List Ro) (id : ByteArray) : Bool := if h : findR l id < l.length then (open Classical in decide ((l[findR l id]).id = id)) else false

theorem isR_some {l : List Ro} {id : ByteArray} (h : isR l id = true) : ∃ q : findR l id < l.length, (l[findR l id]).id = id := by
  unfold isR at h
  split at h
  · rename_i q
    exact ⟨q, by simpa using h⟩
  · cases h

theorem isR_len {l : List Ro} {id : ByteArray} (h : findR l id = l.length) : isR l id = false := by
  unfold isR
  rw [dif_neg (by omega)]

/-- Whose ids rise: it is there just where one bears it. -/
theorem isR_iff {l : List Ro} {id : ByteArray} (hP : RowsP l l.length) : isR l id = true ↔ ∃ x ∈ l, x.id = id := by
  constructor
  · intro h
    obtain ⟨q, e⟩ := isR_some h
    exact ⟨_, List.getElem_mem q, e⟩
  · rintro ⟨x, hx, rfl⟩
    obtain ⟨i, hi, rfl⟩ := List.getElem_of_mem hx
    have e : findR l l[i].id = i := findR_at (Nat.le_of_lt hi) (fun j hj => rise hP hi hj hi) (fun _ => u_ltB_irr _)
    unfold isR
    rw [dif_pos (by rw [e]; exact hi)]
    simp [e]

def insR (l : List Ro) (k : Nat) (x : Ro) : List Ro := l.take k ++ x :: l.drop k

theorem insR_len (l : List Ro) (k : Nat) (x : Ro) (h : k ≤ l.length) : (insR l k x).length = l.length + 1 := by
  unfold insR
  rw [List.length_append, List.length_cons, List.length_take, List.length_drop]
  omega

def zeroT : Tb := ⟨0, []⟩

/-- The row that is entered where it is to be. -/
noncomputable def enterT (t : Tb) (id : ByteArray) (til : Int) : Tb × Int :=
  if isR t.rows id = true then (t, 1) else if (t.rows.length : Int) = t.most then (t, 2) else (⟨t.most, insR t.rows (findR t.rows id) ⟨id, til⟩⟩, 0)

noncomputable def enteredT (t : Tb) (id : ByteArray) (til : Int) : Tb × Int :=
  if (tableB t && u_idOk id && utmB til) = true then enterT t id til else (zeroT, 3)

noncomputable def holdsT (t : Tb) (id : ByteArray) : Bool := tableB t && isR t.rows id

noncomputable def removeT (t : Tb) (id : ByteArray) : Tb × Bool :=
  if isR t.rows id = true then (⟨t.most, t.rows.take (findR t.rows id) ++ t.rows.drop (findR t.rows id + 1)⟩, true) else (t, false)

noncomputable def removedT (t : Tb) (id : ByteArray) : Tb × Bool := if tableB t = true then removeT t id else (zeroT, false)

def sweepR (l : List Ro) (now : Int) : List Ro := l.filter fun x => decide (now < x.til)

noncomputable def sweptT (t : Tb) (now : Int) : Tb := if (tableB t && utmB now) = true then ⟨t.most, sweepR t.rows now⟩ else zeroT

def newT (most : Int) : Tb × Bool := if mostB most = true then (⟨most, []⟩, true) else (zeroT, false)

/-- The rows are in memory of their own from B on. -/
def OwnRo (w : World) (B : Nat) (a : Option Addr) (l : List Ro) : Prop := 0 < l.length → ∃ g o cu, a = some ⟨g, o, none⟩ ∧ B ≤ g ∧ w.heap[g]? = some (.cells cu 83 (0, 0)) ∧ RoCells cu o l

theorem OwnRo.row {w : World} {B : Nat} {a : Option Addr} {l : List Ro} (h : OwnRo w B a l) : RoRow w a l := by
  intro j hj
  obtain ⟨g, o, cu, e, _, hh, hc⟩ := h (by omega)
  obtain ⟨c1, c2⟩ := hc j hj
  exact ⟨g, o, e, lt_of_heap hh, by rw [Lib.cell_of_heap hh]; exact c1, by rw [Lib.cell_of_heap hh]; exact c2⟩

theorem OwnRo.below {w w' : World} {B : Nat} {a : Option Addr} {l : List Ro} (h : OwnRo w B a l) (hb : Below w.heap.size w w') : OwnRo w' B a l := fun hl => by
  obtain ⟨g, o, cu, e1, e2, e3, e4⟩ := h hl
  exact ⟨g, o, cu, e1, e2, u_blk_below e3 hb, e4⟩

theorem OwnRo.keep {w w' : World} {B : Nat} {p : Nat → Prop} {a : Option Addr} {l : List Ro} (h : OwnRo w B a l) (hk : u_KeepB p w w') (hp : ∀ b, p b → b < B) : OwnRo w' B a l := fun hl => by
  obtain ⟨g, o, cu, e1, e2, e3, e4⟩ := h hl
  exact ⟨g, o, cu, e1, e2, (hk.block g (lt_of_heap e3) (fun e => by have := hp g e; omega)).trans e3, e4⟩

theorem OwnRo.mono {w : World} {B B' : Nat} {a : Option Addr} {l : List Ro} (h : OwnRo w B a l) (hB : B' ≤ B) : OwnRo w B' a l := fun hl => by
  obtain ⟨g, o, cu, e1, e2, e3, e4⟩ := h hl
  exact ⟨g, o, cu, e1, Nat.le_trans hB e2, e3, e4⟩

theorem OwnRo.nil (w : World) (B : Nat) (a : Option Addr) : OwnRo w B a [] := fun h => absurd h (Nat.lt_irrefl 0)

/-- The cells of rows. -/
def roC (l : List Ro) : List Value := l.flatMap fun x => [.string x.id, .int .i64 x.til]

theorem roC_len (l : List Ro) : (roC l).length = l.length * 2 := by
  induction l with
  | nil => rfl
  | cons x l ih => show (roC l).length + 2 = _; rw [ih, List.length_cons]; omega

theorem roC_app (a b : List Ro) : roC (a ++ b) = roC a ++ roC b := by unfold roC; rw [List.flatMap_append]

theorem roC_get (l : List Ro) (j : Nat) (h : j < l.length) : (roC l)[j * 2]? = some (.string l[j].id) ∧ (roC l)[j * 2 + 1]? = some (.int .i64 l[j].til) := by
  induction l generalizing j with
  | nil => simp at h
  | cons x l ih =>
    have e : roC (x :: l) = .string x.id :: .int .i64 x.til :: roC l := rfl
    rw [e]
    match j with
    | 0 => exact ⟨rfl, rfl⟩
    | j + 1 =>
      have h1 : (j + 1) * 2 = j * 2 + 1 + 1 := by omega
      have h2 : (j + 1) * 2 + 1 = (j * 2 + 1) + 1 + 1 := by omega
      rw [h2, h1]
      exact ih j (by simpa using h)

theorem roC_one (l : List Ro) : ∀ u ∈ roC l, u.oneCell' = true := by
  intro u hu
  unfold roC at hu
  obtain ⟨x, _, hx⟩ := List.mem_flatMap.1 hu
  simp at hx
  rcases hx with rfl | rfl <;> rfl

theorem own_ro {w : World} {B : Nat} {v : Value} {n : Nat} {l : List Ro} (h : w.ownsRow B 83 2 v n (roC l)) (hn : l.length = n) : ∃ a c, v = .slice a n c ∧ OwnRo w B a l := by
  rcases h.2 with ⟨rfl, rfl⟩ | ⟨g, cp, cur, rfl, hg, hh, hn', hc, hs, ht⟩
  · exact ⟨none, 0, rfl, fun hl => by omega⟩
  · refine ⟨_, cp, rfl, fun _ => ⟨g, 0, cur, rfl, hg, hh, fun j hj => ?_⟩⟩
    obtain ⟨g1, g2⟩ := roC_get l j hj
    rw [← ht, List.getElem?_take] at g1 g2
    refine ⟨?_, ?_⟩
    · rw [Nat.zero_add, ← Array.getElem?_toList]
      split at g1
      · exact g1
      · cases g1
    · rw [Nat.zero_add, ← Array.getElem?_toList]
      split at g2
      · exact g2
      · cases g2

end Go.Proofs.YtgdfeicojgnoaaaGreatDoor

namespace Go.Proofs.YtgdfeicojgnoaaaGreatDoor
open Go.RowKit
set_option linter.unusedVariables false
set_option linter.unusedSimpArgs false

def g_wordLS : ByteArray := ⟨#[97, 98, 99, 100, 101, 102, 103, 104, 105, 106, 107, 108, 109, 110, 111, 112, 113, 114, 115, 116, 117, 118, 119, 120, 121, 122, 65, 66, 67, 68, 69, 70, 71, 72, 73, 74, 75, 76, 77, 78, 79, 80, 81, 82, 83, 84, 85, 86, 87, 88, 89, 90, 48, 49, 50, 51, 52, 53, 54, 55, 56, 57, 46, 64]⟩

/-- A word. -/
def g_wordB (s : ByteArray) : Bool := !decide (s.size = 0) && u_ofB g_wordLS 20 s

set_option maxHeartbeats 2000000 in
theorem g_c_spec_l14Word (s : ByteArray) (w : World) (hs : s.size ≤ 1048576) :
    Calls Tryz.prog 43 #[.string s] w fun e w' => e = .returned (.bool (g_wordB s)) ∧ Below w.heap.size w w' := by
  have C := hid (fun wx => u_c_spec_l1Of g_wordLS 20 s wx hs (by decide) (by decide))
  have E := u_empty_is s
  unfold g_wordB
  generalize u_ofB g_wordLS 20 s = V at *
  cases q : decide (s.size = 0) with
  | true =>
    rw [q] at E
    clear q hs
    go_enter Tryz.func43, Tryz.ntmps43
    go_wp2_with fail
    go_ret
    exact ⟨rfl, Below.refl _ _⟩
  | false =>
    rw [q] at E
    clear q hs
    go_enter Tryz.func43, Tryz.ntmps43
    go_wp2_with fail
    refine (C.out _).mono ?_
    rintro e w1 ⟨rfl, hb1⟩
    have HB1 := hid hb1
    clear hb1 C
    go_wp2_with fail
    go_ret
    exact ⟨rfl, HB1.out⟩

/-- A sign that may stand in a word. -/
def g_inWB (c : Int) : Bool := (decide (97 ≤ c) && decide (c ≤ 122)) || (decide (65 ≤ c) && decide (c ≤ 90)) || (decide (48 ≤ c) && decide (c ≤ 57)) || decide (c = 46) || decide (c = 64)

theorem g_inWB_all : ∀ n : Fin 256, u_inB g_wordLS (UInt8.ofNat n.val) = g_inWB (n.val : Int) := by decide +kernel

theorem g_inWB_is (c : UInt8) : u_inB g_wordLS c = g_inWB c.toNat := by
  have h := g_inWB_all ⟨c.toNat, c.toNat_lt⟩
  have e : UInt8.ofNat c.toNat = c := by simp
  rw [e] at h
  exact h

set_option maxHeartbeats 1000000 in
theorem g_cInWord (c : Int) (w : World) (h0 : 0 ≤ c) (h1 : c ≤ 255) :
    Calls Tryz.prog 80 #[.int .u8 c] w fun e w' => e = .returned (.bool (g_inWB c)) ∧ w' = w := by
  go_enter Tryz.func80, Tryz.ntmps80
  go_wp2_with (first | (go_at_call 116; refine (c__impl_sign__letter _ _ h0 h1).mono ?_; rintro e w' ⟨rfl, rfl⟩) | (go_at_call 117; refine (u_cDigit _ _ h0 h1).mono ?_; rintro e w' ⟨rfl, rfl⟩))
  all_goals go_ret
  all_goals exact ⟨ret_bool (by rw [Bool.eq_iff_iff]; simp_all [g_inWB, letB]; try omega), rfl⟩

/-- All signs may stand in a word. -/
def g_allWd (l : List UInt8) : Bool := l.all fun c => g_inWB c.toNat

theorem g_allWd_is (l : List UInt8) : (l.all fun c => g_wordLS.data.toList.any fun d => decide (d = c)) = g_allWd l := by
  unfold g_allWd
  congr 1
  funext c
  exact g_inWB_is c

theorem g_allWd_snoc (s : ByteArray) (k : Nat) (h : k < s.size) : g_allWd (s.data.toList.take (k + 1)) = (g_allWd (s.data.toList.take k) && g_inWB s[k].toNat) := by
  unfold g_allWd
  rw [take_snoc s k h, List.all_append]
  simp

theorem g_allWd_no (s : ByteArray) (k : Nat) (h : k < s.size) (hc : g_inWB s[k].toNat = false) : g_allWd s.data.toList = false := by
  cases hA : g_allWd s.data.toList with
  | false => rfl
  | true =>
    have := List.all_eq_true.1 hA s[k] (List.getElem_mem _)
    rw [hc] at this
    cases this

set_option maxHeartbeats 1000000 in
theorem g_cAllWord (s : ByteArray) (w : World) (hs : s.size ≤ 1048576) :
    Calls Tryz.prog 79 #[.string s, .func (.func 80) #[] #[]] w fun e w' => e = .returned (.bool (g_allWd s.data.toList)) ∧ w' = w := by
  go_enter Tryz.func79, Tryz.ntmps79
  go_wp2
  go_loop [8] (fun i => ∃ k : Nat, k ≤ s.size ∧ i = .int .i64 k ∧ Hid (g_allWd (s.data.toList.take k) = true)) (fun i => s.size - (intOf i).toNat)
  case atStart => exact ⟨0, Nat.zero_le _, rfl, rfl⟩
  case round =>
    obtain ⟨k, hk, rfl, HP⟩ := hrel
    by_cases hlt : k < s.size
    · have hb : (s[k].toNat : Int) ≤ 255 := by have := s[k].toNat_lt; omega
      cases hc : g_inWB s[k].toNat
      · go_wp2_with (go_at_call 80; refine (g_cInWord _ _ (by omega) hb).mono ?_; rintro e w' ⟨rfl, rfl⟩)
        go_ret
        exact ⟨ret_bool (g_allWd_no s k hlt hc).symm, rfl⟩
      · go_wp2_with (go_at_call 80; refine (g_cInWord _ _ (by omega) hb).mono ?_; rintro e w' ⟨rfl, rfl⟩)
        go_round
        case rel => exact ⟨k + 1, by omega, by go_num, by show g_allWd _ = true; rw [g_allWd_snoc s k hlt, HP.out, hc]; rfl⟩
        case measure => simp [intOf]; omega
    · go_wp2
      go_ret
      exact ⟨ret_bool (by rw [← take_full s k hlt]; exact HP.out.symm), rfl⟩

theorem g_wordB_is (s : ByteArray) : g_wordB s = (decide (1 ≤ s.size) && (decide (s.size ≤ 20) && g_allWd s.data.toList)) := by
  unfold g_wordB u_ofB
  rw [g_allWd_is, Bool.and_comm (g_allWd s.data.toList)]
  have e : (!decide (s.size = 0)) = decide (1 ≤ s.size) := by
    by_cases h : s.size = 0
    · rw [decide_eq_true h, decide_eq_false (show ¬ 1 ≤ s.size by omega)]; rfl
    · rw [decide_eq_false h, decide_eq_true (show 1 ≤ s.size by omega)]; rfl
  rw [e]

set_option maxHeartbeats 2000000 in
theorem g_cWordOk (s : ByteArray) (w : World) (hs : s.size ≤ 1048576) :
    Calls Tryz.prog 39 #[.string s] w fun e w' => e = .returned (.bool (g_wordB s)) ∧ w' = w := by
  have C := hid (fun wx => g_cAllWord s wx hs)
  rw [g_wordB_is]
  generalize g_allWd s.data.toList = M at *
  by_cases h1 : 1 ≤ s.size
  · rw [decide_eq_true h1]
    have h1' : (1 : Int) ≤ (s.size : Int) := by omega
    by_cases h12 : s.size ≤ 20
    · rw [decide_eq_true h12]
      have h12' : (s.size : Int) ≤ 20 := by omega
      go_enter Tryz.func39, Tryz.ntmps39
      go_wp2_with fail
      refine (C.out _).mono ?_
      rintro e w1 ⟨rfl, rfl⟩
      go_wp2_with fail
      go_ret
      exact ⟨by simp, rfl⟩
    · rw [decide_eq_false h12]
      have h12' : ¬ (s.size : Int) ≤ 20 := by omega
      go_enter Tryz.func39, Tryz.ntmps39
      go_wp2_with fail
      go_ret
      exact ⟨by simp, rfl⟩
  · rw [decide_eq_false h1]
    have h1' : ¬ (1 : Int) ≤ (s.size : Int) := by omega
    go_enter Tryz.func39, Tryz.ntmps39
    go_wp2_with fail
    go_ret
    exact ⟨by simp, rfl⟩

/-- A power that a key of this modulus may have. -/
def g_pwB (m p : Int) : Bool := decide (3 ≤ p ∧ p < m)

/-- What opens. -/
def g_opB (m o : Int) : Bool := decide ((2147483648 ≤ m ∧ m ≤ 3000000000) ∧ 3 ≤ o ∧ o < m)

/-- What locks. -/
def g_lkB (m o d : Int) : Bool := decide (((2147483648 ≤ m ∧ m ≤ 3000000000) ∧ 3 ≤ o ∧ o < m) ∧ 3 ≤ d ∧ d < m)

/-- A key that is right, public or not. -/
def g_okB (m o d : Int) : Bool := decide (((2147483648 ≤ m ∧ m ≤ 3000000000) ∧ 3 ≤ o ∧ o < m) ∧ (d = 0 ∨ 3 ≤ d ∧ d < m))

theorem g_dec_t {p : Prop} [Decidable p] (h : p) : decide p = true := decide_eq_true h

theorem g_dec_f {p : Prop} [Decidable p] (h : ¬ p) : decide p = false := decide_eq_false h

theorem g_k_bcell {W w1 : World} (hb : Below W.heap.size W w1) : (∀ b o, b < W.heap.size → w1.cell? ⟨b, o, none⟩ = W.cell? ⟨b, o, none⟩) ∧ (∀ b o, b < W.heap.size → w1.frozen? ⟨b, o, none⟩ = W.frozen? ⟨b, o, none⟩) :=
  ⟨fun b o h => hb.cell (p := ⟨b, o, none⟩) h, fun b o h => hb.frozen (p := ⟨b, o, none⟩) h⟩

theorem g_cPowerOk (m o p : Int) (w : World) :
    Calls Tryz.prog 156 #[.agg #[.int .i64 m, .int .i64 o], .int .i64 p] w fun e w' => e = .returned (.bool (g_pwB m p)) ∧ Below w.heap.size w w' := by
  by_cases h1 : 3 ≤ p
  · by_cases h2 : p < m
    · rw [show g_pwB m p = true from g_dec_t ⟨h1, h2⟩]
      go_enter Tryz.func156, Tryz.ntmps156
      go_wp2
      go_ret
      exact ⟨rfl, (Below.refl _ _).alloc (Nat.le_refl _) _⟩
    · rw [show g_pwB m p = false from g_dec_f (fun x => h2 x.2)]
      go_enter Tryz.func156, Tryz.ntmps156
      go_wp2
      go_ret
      exact ⟨rfl, (Below.refl _ _).alloc (Nat.le_refl _) _⟩
  · rw [show g_pwB m p = false from g_dec_f (fun x => h1 x.1)]
    go_enter Tryz.func156, Tryz.ntmps156
    go_wp2
    go_ret
    exact ⟨rfl, (Below.refl _ _).alloc (Nat.le_refl _) _⟩

theorem g_cOpens (m o : Int) (w : World) :
    Calls Tryz.prog 139 #[.agg #[.int .i64 m, .int .i64 o]] w fun e w' => e = .returned (.bool (g_opB m o)) ∧ Below w.heap.size w w' := by
  by_cases h1 : 2147483648 ≤ m
  · by_cases h2 : m ≤ 3000000000
    · have C := fun w => g_cPowerOk m o o w
      obtain ⟨B, hB⟩ : ∃ B, g_pwB m o = B := ⟨_, rfl⟩
      have hq : g_opB m o = B := by
        rw [← hB]; unfold g_opB g_pwB; simp [h1, h2]
      rw [hq]
      rw [hB] at C
      clear hq hB
      go_enter Tryz.func139, Tryz.ntmps139
      go_wp2_with (go_at_call 156; refine (C _).mono ?_; rintro e w' ⟨rfl, hb⟩)
      go_ret
      exact ⟨rfl, ((Below.refl _ _).alloc (Nat.le_refl _) _).trans (hb.mono (by simp))⟩
    · rw [show g_opB m o = false from g_dec_f (fun x => h2 x.1.2)]
      go_enter Tryz.func139, Tryz.ntmps139
      go_wp2
      go_ret
      exact ⟨rfl, (Below.refl _ _).alloc (Nat.le_refl _) _⟩
  · rw [show g_opB m o = false from g_dec_f (fun x => h1 x.1.1)]
    go_enter Tryz.func139, Tryz.ntmps139
    go_wp2
    go_ret
    exact ⟨rfl, (Below.refl _ _).alloc (Nat.le_refl _) _⟩

theorem g_cWholeOf (n e d : Int) (w : World) :
    Calls Tryz.prog 118 #[.agg #[.int .i64 n, .int .i64 e, .int .i64 d]] w fun x w' => x = .returned (.agg #[.int .i64 n, .int .i64 e, .int .i64 d]) ∧ Below w.heap.size w w' := by
  go_enter Tryz.func118, Tryz.ntmps118
  go_wp2
  refine bodyPost_ret (v := .agg #[.int .i64 n, .int .i64 e, .int .i64 d]) (by simp [results, Tryz.results118, go_sem]) rfl ⟨rfl, ?_⟩
  repeat first | exact Below.refl _ _ | refine Below.setCell ?_ (by simp) _ | refine Below.alloc ?_ (by simp) _

set_option maxHeartbeats 1000000 in
theorem g_cLocks (m o d : Int) (w : World) :
    Calls Tryz.prog 138 #[.agg #[.int .i64 m, .int .i64 o, .int .i64 d]] w fun e w' => e = .returned (.bool (g_lkB m o d)) ∧ Below w.heap.size w w' := by
  have CO := fun w => g_cOpens m o w
  by_cases h : g_opB m o = true
  · have CP := fun w => g_cPowerOk m o d w
    obtain ⟨B, hB⟩ : ∃ B, g_pwB m d = B := ⟨_, rfl⟩
    have hq : g_lkB m o d = B := by
      have h' : (2147483648 ≤ m ∧ m ≤ 3000000000) ∧ 3 ≤ o ∧ o < m := of_decide_eq_true h
      rw [← hB]; unfold g_lkB g_pwB; simp [h']
    rw [hq]
    rw [hB] at CP
    rw [h] at CO
    clear hq hB h
    go_enter Tryz.func138, Tryz.ntmps138
    go_wp2_with fail
    refine (CO _).mono ?_
    rintro e w1 ⟨rfl, hb⟩
    obtain ⟨hc, hf⟩ := g_k_bcell hb
    have HB : Hid (Below w.heap.size w w1) := ((Below.refl _ _).alloc (Nat.le_refl _) _).trans (hb.mono (by simp))
    go_wp2_with (go_at_call 156; refine (CP _).mono ?_; rintro e w2 ⟨rfl, hb2⟩)
    go_ret
    exact ⟨rfl, HB.out.trans (hb2.mono HB.out.size)⟩
  · have h : g_opB m o = false := by simpa using h
    have hq : g_lkB m o d = false := by
      have h' : ¬ ((2147483648 ≤ m ∧ m ≤ 3000000000) ∧ 3 ≤ o ∧ o < m) := of_decide_eq_false h
      unfold g_lkB; exact g_dec_f (fun x => h' x.1)
    rw [hq]
    rw [h] at CO
    clear hq h
    go_enter Tryz.func138, Tryz.ntmps138
    go_wp2_with (go_at_call 139; refine (CO _).mono ?_; rintro e w1 ⟨rfl, hb⟩)
    go_ret
    exact ⟨rfl, ((Below.refl _ _).alloc (Nat.le_refl _) _).trans (hb.mono (by simp))⟩

set_option maxHeartbeats 1000000 in
theorem g_cOk (m o d : Int) (w : World) :
    Calls Tryz.prog 119 #[.agg #[.int .i64 m, .int .i64 o, .int .i64 d]] w fun e w' => e = .returned (.bool (g_okB m o d)) ∧ Below w.heap.size w w' := by
  have CL := fun w => g_cLocks m o d w
  by_cases h : g_lkB m o d = true
  · have hq : g_okB m o d = true := by
      have h' : ((2147483648 ≤ m ∧ m ≤ 3000000000) ∧ 3 ≤ o ∧ o < m) ∧ 3 ≤ d ∧ d < m := of_decide_eq_true h
      exact g_dec_t ⟨h'.1, .inr h'.2⟩
    rw [hq]
    rw [h] at CL
    clear hq h
    go_enter Tryz.func119, Tryz.ntmps119
    go_wp2_with (go_at_call 138; refine (CL _).mono ?_; rintro e w1 ⟨rfl, hb⟩)
    go_ret
    exact ⟨rfl, ((Below.refl _ _).alloc (Nat.le_refl _) _).trans (hb.mono (by simp))⟩
  · have h : g_lkB m o d = false := by simpa using h
    have h' : ¬ (((2147483648 ≤ m ∧ m ≤ 3000000000) ∧ 3 ≤ o ∧ o < m) ∧ 3 ≤ d ∧ d < m) := of_decide_eq_false h
    have CO := fun w => g_cOpens m o w
    rw [h] at CL
    by_cases k : g_opB m o = true
    · have k' : (2147483648 ≤ m ∧ m ≤ 3000000000) ∧ 3 ≤ o ∧ o < m := of_decide_eq_true k
      rw [k] at CO
      by_cases hd : d = 0
      · have hq : g_okB m o d = true := g_dec_t ⟨k', .inl hd⟩
        rw [hq]
        have he : (d == 0) = true := by simpa using hd
        clear hq h h' k k' hd
        go_enter Tryz.func119, Tryz.ntmps119
        go_wp2_with fail
        refine (CL _).mono ?_
        rintro e w1 ⟨rfl, hb⟩
        obtain ⟨hc, hf⟩ := g_k_bcell hb
        have HB : Hid (Below w.heap.size w w1) := ((Below.refl _ _).alloc (Nat.le_refl _) _).trans (hb.mono (by simp))
        have hz : w.heap.size < w1.heap.size := by have := hb.size; simp at this; omega
        go_wp2_with fail
        refine (CO _).mono ?_
        rintro e w2 ⟨rfl, hb2⟩
        obtain ⟨hc2, hf2⟩ := g_k_bcell hb2
        go_wp2_with fail
        go_ret
        exact ⟨rfl, HB.out.trans (hb2.mono HB.out.size)⟩
      · have hq : g_okB m o d = false := g_dec_f (fun x => x.2.elim hd (fun y => h' ⟨k', y⟩))
        rw [hq]
        have he : (d == 0) = false := by simpa using hd
        clear hq h h' k k'
        go_enter Tryz.func119, Tryz.ntmps119
        go_wp2_with fail
        refine (CL _).mono ?_
        rintro e w1 ⟨rfl, hb⟩
        obtain ⟨hc, hf⟩ := g_k_bcell hb
        have HB : Hid (Below w.heap.size w w1) := ((Below.refl _ _).alloc (Nat.le_refl _) _).trans (hb.mono (by simp))
        have hz : w.heap.size < w1.heap.size := by have := hb.size; simp at this; omega
        go_wp2_with fail
        refine (CO _).mono ?_
        rintro e w2 ⟨rfl, hb2⟩
        obtain ⟨hc2, hf2⟩ := g_k_bcell hb2
        go_wp2_with fail
        go_ret
        exact ⟨rfl, HB.out.trans (hb2.mono HB.out.size)⟩
    · have k : g_opB m o = false := by simpa using k
      have k' : ¬ ((2147483648 ≤ m ∧ m ≤ 3000000000) ∧ 3 ≤ o ∧ o < m) := of_decide_eq_false k
      have hq : g_okB m o d = false := g_dec_f (fun x => k' x.1)
      rw [hq]
      rw [k] at CO
      clear hq h h' k k'
      go_enter Tryz.func119, Tryz.ntmps119
      go_wp2_with fail
      refine (CL _).mono ?_
      rintro e w1 ⟨rfl, hb⟩
      obtain ⟨hc, hf⟩ := g_k_bcell hb
      have HB : Hid (Below w.heap.size w w1) := ((Below.refl _ _).alloc (Nat.le_refl _) _).trans (hb.mono (by simp))
      have hz : w.heap.size < w1.heap.size := by have := hb.size; simp at this; omega
      go_wp2_with fail
      refine (CO _).mono ?_
      rintro e w2 ⟨rfl, hb2⟩
      go_wp2_with fail
      go_ret
      exact ⟨rfl, HB.out.trans (hb2.mono HB.out.size)⟩

theorem g_k_bb {w a b : World} (h : Below w.heap.size w a) (k : Below a.heap.size a b) : Below w.heap.size w b := h.trans (k.mono h.size)

theorem g_cKeyOkI (n e d : Int) (w : World) :
    Calls Tryz.prog 81 #[.agg #[.int .i64 n, .int .i64 e, .int .i64 d]] w fun x w' => x = .returned (.bool (g_okB n e d)) ∧ Below w.heap.size w w' := by
  have CW := fun w => g_cWholeOf n e d w
  have CK := fun w => g_cOk n e d w
  generalize g_okB n e d = B at *
  go_enter Tryz.func81, Tryz.ntmps81
  go_wp2_with fail
  refine (CW _).mono ?_
  rintro x w1 ⟨rfl, hb⟩
  have HB : Hid (Below w.heap.size w w1) := ((Below.refl _ _).alloc (Nat.le_refl _) _).trans (hb.mono (by simp))
  go_wp2_with fail
  refine (CK _).mono ?_
  rintro x w2 ⟨rfl, hb2⟩
  go_wp2_with fail
  go_ret
  exact ⟨rfl, g_k_bb HB.out hb2⟩

theorem g_cIn5 (x lo hi : Int) (w : World) :
    Calls Tryz.prog 71 #[.int .i64 x, .int .i64 lo, .int .i64 hi] w fun e w' => e = .returned (.bool (decide (lo ≤ x ∧ x ≤ hi))) ∧ w' = w := by
  go_enter Tryz.func71, Tryz.ntmps71
  go_wp2
  all_goals go_ret
  all_goals exact ⟨by congr 2; simp; try omega, rfl⟩

set_option maxHeartbeats 1000000 in
theorem g_cPubB (n e d : Int) (w : World) :
    Calls Tryz.prog 83 #[.agg #[.int .i64 n, .int .i64 e, .int .i64 d]] w fun x w' => x = .returned (.bool (g_opB n e)) ∧ Below w.heap.size w w' := by
  have C1 := fun w => g_cIn5 n 2147483648 3000000000 w
  by_cases hr : 2147483648 ≤ n ∧ n ≤ 3000000000
  · rw [g_dec_t hr] at C1
    have C2 := fun w => g_cIn5 e 3 (n - 1) w
    obtain ⟨B, hB⟩ : ∃ B, g_opB n e = B := ⟨_, rfl⟩
    have hq : decide (3 ≤ e ∧ e ≤ n - 1) = B := by
      rw [← hB]; unfold g_opB
      rw [Bool.eq_iff_iff]; simp [hr]; omega
    rw [hq] at C2
    rw [hB]
    have e1 : wrap64 (n - 1) = n - 1 := IntWalk.wrap64_in _ (by omega)
    have e2 : IntKind.i64.wrap (n - 1) = n - 1 := IntWalk.i64_in _ (by omega)
    clear hq hB
    go_enter Tryz.func83, Tryz.ntmps83
    go_wp2_with fail
    refine (C1 _).mono ?_
    rintro x w1 ⟨rfl, rfl⟩
    go_wp2_with fail
    refine (C2 _).mono ?_
    rintro x w1 ⟨rfl, rfl⟩
    go_wp2_with fail
    go_ret
    exact ⟨rfl, (Below.refl _ _).alloc (Nat.le_refl _) _⟩
  · rw [g_dec_f hr] at C1
    rw [show g_opB n e = false from g_dec_f (fun x => hr x.1)]
    clear hr
    go_enter Tryz.func83, Tryz.ntmps83
    go_wp2_with fail
    refine (C1 _).mono ?_
    rintro x w1 ⟨rfl, rfl⟩
    go_wp2_with fail
    go_ret
    exact ⟨rfl, (Below.refl _ _).alloc (Nat.le_refl _) _⟩

set_option maxHeartbeats 1000000 in
theorem g_cKeyOkS (n e d : Int) (w : World) :
    Calls Tryz.prog 44 #[.agg #[.int .i64 n, .int .i64 e, .int .i64 d]] w fun x w' => x = .returned (.bool (g_okB n e d)) ∧ Below w.heap.size w w' := by
  have C1 := fun w => g_cPubB n e d w
  by_cases h : g_opB n e = true
  · have h' : (2147483648 ≤ n ∧ n ≤ 3000000000) ∧ 3 ≤ e ∧ e < n := of_decide_eq_true h
    rw [h] at C1
    by_cases hd : d = 0
    · rw [show g_okB n e d = true from g_dec_t ⟨h', .inl hd⟩]
      have he : (d == 0) = true := by simpa using hd
      clear hd h h'
      go_enter Tryz.func44, Tryz.ntmps44
      go_wp2_with fail
      refine (C1 _).mono ?_
      rintro x w1 ⟨rfl, hb⟩
      obtain ⟨hc, hf⟩ := g_k_bcell hb
      go_wp2_with fail
      go_ret
      exact ⟨rfl, ((Below.refl _ _).alloc (Nat.le_refl _) _).trans (hb.mono (by simp))⟩
    · have C2 := fun w => g_cIn5 d 3 (n - 1) w
      obtain ⟨B, hB⟩ : ∃ B, g_okB n e d = B := ⟨_, rfl⟩
      have hq : decide (3 ≤ d ∧ d ≤ n - 1) = B := by
        rw [← hB]; unfold g_okB
        rw [Bool.eq_iff_iff]; simp [h', hd]; omega
      rw [hq] at C2
      rw [hB]
      have e1 : wrap64 (n - 1) = n - 1 := IntWalk.wrap64_in _ (by omega)
      have e2 : IntKind.i64.wrap (n - 1) = n - 1 := IntWalk.i64_in _ (by omega)
      have he : (d == 0) = false := by simpa using hd
      clear hd hq hB h h'
      go_enter Tryz.func44, Tryz.ntmps44
      go_wp2_with fail
      refine (C1 _).mono ?_
      rintro x w1 ⟨rfl, hb⟩
      obtain ⟨hc, hf⟩ := g_k_bcell hb
      have HB : Hid (Below w.heap.size w w1) := ((Below.refl _ _).alloc (Nat.le_refl _) _).trans (hb.mono (by simp))
      go_wp2_with fail
      refine (C2 _).mono ?_
      rintro x w2 ⟨rfl, rfl⟩
      go_wp2_with fail
      go_ret
      exact ⟨rfl, HB.out⟩
  · have h : g_opB n e = false := by simpa using h
    have h' : ¬ ((2147483648 ≤ n ∧ n ≤ 3000000000) ∧ 3 ≤ e ∧ e < n) := of_decide_eq_false h
    rw [h] at C1
    rw [show g_okB n e d = false from g_dec_f (fun x => h' x.1)]
    clear h h'
    go_enter Tryz.func44, Tryz.ntmps44
    go_wp2_with fail
    refine (C1 _).mono ?_
    rintro x w1 ⟨rfl, hb⟩
    go_wp2_with fail
    go_ret
    exact ⟨rfl, ((Below.refl _ _).alloc (Nat.le_refl _) _).trans (hb.mono (by simp))⟩

theorem g_cToKey (n e d : Int) (w : World) :
    Calls Tryz.prog 123 #[.agg #[.int .i64 n, .int .i64 e, .int .i64 d]] w fun x w' => x = .returned (.agg #[.int .i64 n, .int .i64 e, .int .i64 d]) ∧ Below w.heap.size w w' := by
  go_enter Tryz.func123, Tryz.ntmps123
  go_wp2
  refine bodyPost_ret (v := .agg #[.int .i64 n, .int .i64 e, .int .i64 d]) (by simp [results, Tryz.results123, go_sem]) rfl ⟨rfl, ?_⟩
  repeat first | exact Below.refl _ _ | refine Below.setCell ?_ (by simp; try omega) _ | refine Below.alloc ?_ (by simp; try omega) _

/-- A key is as it is. -/
theorem g_cEqKey (n e d : Int) (w : World) :
    Calls Tryz.prog 125 #[.agg #[.int .i64 n, .int .i64 e, .int .i64 d], .agg #[.int .i64 n, .int .i64 e, .int .i64 d]] w fun x w' => x = .returned (.bool true) ∧ Below w.heap.size w w' := by
  go_enter Tryz.func125, Tryz.ntmps125
  go_wp2
  go_ret
  refine ⟨rfl, ?_⟩
  repeat first | exact Below.refl _ _ | refine Below.setCell ?_ (by simp; try omega) _ | refine Below.alloc ?_ (by simp; try omega) _

def tmB (x : Int) : Bool := decide (0 ≤ x ∧ x ≤ 3155759999)
def g_skB (s : Int) : Bool := decide (0 ≤ s ∧ s ≤ 86400)

theorem g_cSkewI (s : Int) (w : World) :
    Calls Tryz.prog 41 #[.int .i64 s] w fun e w' => e = .returned (.bool (g_skB s)) ∧ w' = w := by
  go_enter Tryz.func41, Tryz.ntmps41
  go_wp2
  all_goals go_ret
  all_goals exact ⟨by unfold g_skB; congr 2; simp; try omega, rfl⟩

theorem g_cSkewS (s : Int) (w : World) :
    Calls Tryz.prog 45 #[.int .i64 s] w fun e w' => e = .returned (.bool (g_skB s)) ∧ w' = w := by
  go_enter Tryz.func45, Tryz.ntmps45
  go_wp2_with (go_at_call 71; refine (cIn _ _ _ _).mono ?_; rintro e w' ⟨rfl, rfl⟩)
  go_ret
  exact ⟨by unfold g_skB; congr 2; simp, rfl⟩

end Go.Proofs.YtgdfeicojgnoaaaGreatDoor
