/- Contracts of the small tests on times, of the program and of the specification. Ids, times and the order of texts: what tables lean on. -/
import Derived.Test.YtnjepdggefchnaaGreatDoorRows
import Derived.Test.YtnjepdggefchnaaGreatDoorM3
import Derived.Test.YtnjepdggefchnaaGreatDoorM4
import Derived.WalkKit
import Derived.Laws.Cover1
namespace Go.Proofs.YtnjepdggefchnaaGreatDoor
open Go.RowKit
set_option linter.unusedVariables false
set_option linter.unusedSimpArgs false

theorem cIn (x lo hi : Int) (w : World) :
    Calls Tryz.prog 36 #[.int .i64 x, .int .i64 lo, .int .i64 hi] w fun e w' => e = .returned (.bool (decide (lo ≤ x ∧ x ≤ hi))) ∧ w' = w := by
  go_enter Tryz.func36, Tryz.ntmps36
  go_wp2
  all_goals go_ret
  all_goals exact ⟨by congr 2; simp; try omega, rfl⟩

theorem cTimeS (x : Int) (w : World) :
    Calls Tryz.prog 15 #[.int .i64 x] w fun e w' => e = .returned (.bool (decide (0 ≤ x ∧ x ≤ 3155759999))) ∧ w' = w := by
  go_enter Tryz.func15, Tryz.ntmps15
  go_wp2_with (go_at_call 36; refine (cIn _ _ _ _).mono ?_; rintro e w' ⟨rfl, rfl⟩)
  go_ret
  exact ⟨by congr 2; simp, rfl⟩

theorem cTimeI (x : Int) (w : World) :
    Calls Tryz.prog 60 #[.int .i64 x] w fun e w' => e = .returned (.bool (decide (0 ≤ x ∧ x ≤ 3155759999))) ∧ w' = w := by
  go_enter Tryz.func60, Tryz.ntmps60
  go_wp2
  all_goals go_ret
  all_goals exact ⟨by congr 2; simp; try omega, rfl⟩

end Go.Proofs.YtnjepdggefchnaaGreatDoor

namespace Go.Proofs.YtnjepdggefchnaaGreatDoor
open Go.RowKit
set_option linter.unusedVariables false
set_option linter.unusedSimpArgs false

/-- Every sign is one of these, and there are at most so many. -/
def u_ofB (signs : ByteArray) (most : Nat) (s : ByteArray) : Bool := s.data.toList.all (fun c => signs.data.toList.any fun d => decide (d = c)) && decide (s.size ≤ most)

def u_inB (signs : ByteArray) (c : UInt8) : Bool := signs.data.toList.any fun d => decide (d = c)

theorem u_u8_beq (a b : UInt8) : ((a.toNat : Int) == (b.toNat : Int)) = decide (a = b) := by
  by_cases h : a = b
  · subst h; simp
  · rw [decide_eq_false h]
    have : ¬ a.toNat = b.toNat := fun e => h (UInt8.toNat_inj.1 e)
    simp
    omega

set_option maxHeartbeats 2000000 in
theorem u_c_spec_l1Of (signs : ByteArray) (most : Nat) (s : ByteArray) (w : World) (hs : s.size ≤ 1048576) (hg : signs.size ≤ 256) (hm : most ≤ 1000) :
    Calls Tryz.prog 35 #[.string s, .string signs, .int .i64 (most : Int)] w fun e w' => e = .returned (.bool (u_ofB signs most s)) ∧ Below w.heap.size w w' := by
  obtain ⟨V, hV⟩ : ∃ V, u_ofB signs most s = V := ⟨_, rfl⟩
  have HV := hid hV
  rw [hV]
  clear hV
  go_enter Tryz.func35, Tryz.ntmps35
  go_wp2_with fail
  go_loopw [7] (fun k wr => ∃ i : Nat, k = .int .i64 (i : Int) ∧ i ≤ s.size ∧ Hid ((s.data.toList.take i).all (u_inB signs) = true) ∧ Hid (Below w.heap.size w wr)) (fun k _ => s.size - (intOf k).toNat)
  case atStart => exact ⟨0, rfl, Nat.zero_le _, rfl, Below.refl _ _⟩
  case round =>
    obtain ⟨i, rfl, hi, HA, HB⟩ := hrel
    by_cases hlt : i < s.size
    · have hin : (i : Int) < (s.size : Int) := by omega
      go_wp2_with fail
      go_loopw [8, 9] (fun v k wr => ∃ j : Nat, k = .int .i64 (j : Int) ∧ j ≤ signs.size ∧ v = .bool ((signs.data.toList.take j).any fun d => decide (d = s[i])) ∧ Hid (Below w.heap.size w wr)) (fun _ k _ => signs.size - (intOf k).toNat)
      case atStart => exact ⟨0, rfl, Nat.zero_le _, rfl, HB.out⟩
      case round =>
        clear HB
        obtain ⟨j, rfl, hj, rfl, HB⟩ := hrel
        by_cases hjl : j < signs.size
        · have hjn : (j : Int) < (signs.size : Int) := by omega
          have HE := hid (show (signs.data.toList.take (j + 1)).any (fun d => decide (d = s[i])) = ((signs.data.toList.take j).any (fun d => decide (d = s[i])) || decide (signs[j] = s[i])) by
            rw [take_snoc signs j hjl, List.any_append]
            simp)
          generalize (signs.data.toList.take j).any (fun d => decide (d = s[i])) = P at *
          have hq := u_u8_beq signs[j] s[i]
          generalize decide (signs[j] = s[i]) = D at *
          cases P
          · go_wp2_with fail
            go_quiet (fail)
            go_wp2_with fail
            go_roundw
            case rel => exact ⟨j + 1, by go_num, by omega, by rw [HE.out]; rfl, below_drewN HB.out _⟩
            case measure => simp [intOf]; omega
          · go_wp2_with fail
            go_quiet (fail)
            go_wp2_with fail
            go_roundw
            case rel => exact ⟨j + 1, by go_num, by omega, by rw [HE.out]; rfl, below_drewN HB.out _⟩
            case measure => simp [intOf]; omega
        · have hje : j = signs.size := by omega
          subst hje
          rw [take_full signs _ (by omega)]
          have HI := hid (show signs.data.toList.any (fun d => decide (d = s[i])) = u_inB signs s[i] from rfl)
          rw [HI.out]
          cases hP : u_inB signs s[i]
          · have HF := hid (show V = false by
              rw [← HV.out]
              unfold u_ofB
              rw [Bool.and_eq_false_imp]
              intro h
              have h2 := List.all_eq_true.1 h s[i] (List.getElem_mem _)
              have h3 : u_inB signs s[i] = true := h2
              rw [hP] at h3
              cases h3)
            clear hP
            go_wp2_with fail
            go_ret
            exact ⟨by rw [HF.out]; rfl, HB.out⟩
          · have HA2 := hid (show (s.data.toList.take (i + 1)).all (u_inB signs) = true by rw [take_snoc s i hlt, List.all_append, HA.out]; simp [hP])
            clear hP
            go_wp2_with fail
            go_roundw
            case rel => exact ⟨i + 1, by go_num, by omega, HA2.out, HB.out⟩
            case measure => simp [intOf]; omega
    · have hie : i = s.size := by omega
      subst hie
      have hA := HA.out
      rw [take_full s _ (by omega)] at hA
      have HF := hid (show V = decide (s.size ≤ most) by
        rw [← HV.out]
        unfold u_ofB
        have h : (s.data.toList.all fun c => signs.data.toList.any fun d => decide (d = c)) = true := hA
        rw [h, Bool.true_and])
      clear hA HA
      go_wp2_with fail
      go_ret
      exact ⟨by rw [HF.out]; rfl, HB.out⟩

theorem u_empty_is (s : ByteArray) : s.toList.isEmpty = decide (s.size = 0) := by
  have e : s.size = s.data.toList.length := rfl
  rw [ByteArray.toList_eq, e]
  cases s.data.toList <;> simp

theorem u_cDigit (c : Int) (w : World) (h0 : 0 ≤ c) (h1 : c ≤ 255) :
    Calls Tryz.prog 89 #[.int .u8 c] w fun e w' => e = .returned (.bool (decide (48 ≤ c) && decide (c ≤ 57))) ∧ w' = w := by
  go_enter Tryz.func89, Tryz.ntmps89
  go_wp2
  all_goals go_ret
  all_goals exact ⟨ret_bool (by rw [Bool.eq_iff_iff]; simp; try omega), rfl⟩

def u_idS : ByteArray := ⟨#[73, 100]⟩
def u_idLS : ByteArray := ⟨#[97, 98, 99, 100, 101, 102, 103, 104, 105, 106, 107, 108, 109, 110, 111, 112, 113, 114, 115, 116, 117, 118, 119, 120, 121, 122, 48, 49, 50, 51, 52, 53, 54, 55, 56, 57]⟩

/-- A text that may be an identifier. -/
def u_idOk (s : ByteArray) : Bool := !decide (s.size = 0) && u_ofB u_idLS 12 s

/-- A sign that may stand in an identifier. -/
def u_inIB (c : Int) : Bool := (decide (97 ≤ c) && decide (c ≤ 122)) || (decide (48 ≤ c) && decide (c ≤ 57))

theorem u_inIB_all : ∀ n : Fin 256, u_inB u_idLS (UInt8.ofNat n.val) = u_inIB (n.val : Int) := by decide +kernel

theorem u_inIB_is (c : UInt8) : u_inB u_idLS c = u_inIB c.toNat := by
  have h := u_inIB_all ⟨c.toNat, c.toNat_lt⟩
  have e : UInt8.ofNat c.toNat = c := by simp
  rw [e] at h
  exact h

set_option maxHeartbeats 1000000 in
theorem u_cInId (c : Int) (w : World) (h0 : 0 ≤ c) (h1 : c ≤ 255) :
    Calls Tryz.prog 101 #[.int .u8 c] w fun e w' => e = .returned (.bool (u_inIB c)) ∧ w' = w := by
  go_enter Tryz.func101, Tryz.ntmps101
  go_wp2_with (go_at_call 89; refine (u_cDigit _ _ h0 h1).mono ?_; rintro e w' ⟨rfl, rfl⟩)
  all_goals go_ret
  all_goals exact ⟨ret_bool (by rw [Bool.eq_iff_iff]; simp [u_inIB]; try omega), rfl⟩

/-- All signs may stand in an identifier. -/
def u_allId (l : List UInt8) : Bool := l.all fun c => u_inIB c.toNat

theorem u_allId_is (l : List UInt8) : (l.all fun c => u_idLS.data.toList.any fun d => decide (d = c)) = u_allId l := by
  unfold u_allId
  congr 1
  funext c
  exact u_inIB_is c

theorem u_allId_snoc (s : ByteArray) (k : Nat) (h : k < s.size) : u_allId (s.data.toList.take (k + 1)) = (u_allId (s.data.toList.take k) && u_inIB s[k].toNat) := by
  unfold u_allId
  rw [take_snoc s k h, List.all_append]
  simp

theorem u_allId_no (s : ByteArray) (k : Nat) (h : k < s.size) (hc : u_inIB s[k].toNat = false) : u_allId s.data.toList = false := by
  cases hA : u_allId s.data.toList with
  | false => rfl
  | true =>
    have := List.all_eq_true.1 hA s[k] (List.getElem_mem _)
    rw [hc] at this
    cases this

set_option maxHeartbeats 1000000 in
theorem u_cAllId (s : ByteArray) (w : World) (hs : s.size ≤ 1048576) :
    Calls Tryz.prog 75 #[.string s, .func (.func 101) #[] #[]] w fun e w' => e = .returned (.bool (u_allId s.data.toList)) ∧ w' = w := by
  go_enter Tryz.func75, Tryz.ntmps75
  go_wp2
  go_loop [8] (fun i => ∃ k : Nat, k ≤ s.size ∧ i = .int .i64 k ∧ Hid (u_allId (s.data.toList.take k) = true)) (fun i => s.size - (intOf i).toNat)
  case atStart => exact ⟨0, Nat.zero_le _, rfl, rfl⟩
  case round =>
    obtain ⟨k, hk, rfl, HP⟩ := hrel
    by_cases hlt : k < s.size
    · have hb : (s[k].toNat : Int) ≤ 255 := by have := s[k].toNat_lt; omega
      cases hc : u_inIB s[k].toNat
      · go_wp2_with (go_at_call 101; refine (u_cInId _ _ (by omega) hb).mono ?_; rintro e w' ⟨rfl, rfl⟩)
        go_ret
        exact ⟨ret_bool (u_allId_no s k hlt hc).symm, rfl⟩
      · go_wp2_with (go_at_call 101; refine (u_cInId _ _ (by omega) hb).mono ?_; rintro e w' ⟨rfl, rfl⟩)
        go_round
        case rel => exact ⟨k + 1, by omega, by go_num, by show u_allId _ = true; rw [u_allId_snoc s k hlt, HP.out, hc]; rfl⟩
        case measure => simp [intOf]; omega
    · go_wp2
      go_ret
      exact ⟨ret_bool (by rw [← take_full s k hlt]; exact HP.out.symm), rfl⟩

theorem u_idOk_is (s : ByteArray) : u_idOk s = (decide (1 ≤ s.size) && (decide (s.size ≤ 12) && u_allId s.data.toList)) := by
  unfold u_idOk u_ofB
  rw [u_allId_is, Bool.and_comm (u_allId s.data.toList)]
  have e : (!decide (s.size = 0)) = decide (1 ≤ s.size) := by
    by_cases h : s.size = 0
    · rw [decide_eq_true h, decide_eq_false (show ¬ 1 ≤ s.size by omega)]; rfl
    · rw [decide_eq_false h, decide_eq_true (show 1 ≤ s.size by omega)]; rfl
  rw [e]

set_option maxHeartbeats 2000000 in
theorem u_cIdOk (s : ByteArray) (w : World) (hs : s.size ≤ 1048576) :
    Calls Tryz.prog 94 #[.string s] w fun e w' => e = .returned (.bool (u_idOk s)) ∧ w' = w := by
  have C := hid (fun wx => u_cAllId s wx hs)
  rw [u_idOk_is]
  generalize u_allId s.data.toList = M at *
  by_cases h1 : 1 ≤ s.size
  · rw [decide_eq_true h1]
    have h1' : (1 : Int) ≤ (s.size : Int) := by omega
    by_cases h12 : s.size ≤ 12
    · rw [decide_eq_true h12]
      have h12' : (s.size : Int) ≤ 12 := by omega
      go_enter Tryz.func94, Tryz.ntmps94
      go_wp2_with fail
      refine (C.out _).mono ?_
      rintro e w1 ⟨rfl, rfl⟩
      go_wp2_with fail
      go_ret
      exact ⟨by simp, rfl⟩
    · rw [decide_eq_false h12]
      have h12' : ¬ (s.size : Int) ≤ 12 := by omega
      go_enter Tryz.func94, Tryz.ntmps94
      go_wp2_with fail
      go_ret
      exact ⟨by simp, rfl⟩
  · rw [decide_eq_false h1]
    have h1' : ¬ (1 : Int) ≤ (s.size : Int) := by omega
    go_enter Tryz.func94, Tryz.ntmps94
    go_wp2_with fail
    go_ret
    exact ⟨by simp, rfl⟩

set_option maxHeartbeats 2000000 in
theorem u_c_spec_l12Id (s : ByteArray) (w : World) (hs : s.size ≤ 1048576) :
    Calls Tryz.prog 14 #[.string s] w fun e w' => e = .returned (.bool (u_idOk s)) ∧ Below w.heap.size w w' := by
  have C := hid (fun wx => u_c_spec_l1Of u_idLS 12 s wx hs (by decide) (by decide))
  have E := u_empty_is s
  unfold u_idOk
  generalize u_ofB u_idLS 12 s = V at *
  cases q : decide (s.size = 0) with
  | true =>
    rw [q] at E
    clear q hs
    go_enter Tryz.func14, Tryz.ntmps14
    go_wp2_with fail
    go_ret
    exact ⟨rfl, Below.refl _ _⟩
  | false =>
    rw [q] at E
    clear q hs
    go_enter Tryz.func14, Tryz.ntmps14
    go_wp2_with fail
    refine (C.out _).mono ?_
    rintro e w1 ⟨rfl, hb1⟩
    have HB1 := hid hb1
    clear hb1 C
    go_wp2_with fail
    go_ret
    exact ⟨rfl, HB1.out⟩

/-- Is the one text ahead of the other? -/
def u_ltB (a b : ByteArray) : Bool := Op.bytesLess a.toList b.toList

theorem u_bl_irr : ∀ x : List UInt8, Op.bytesLess x x = false
  | [] => rfl
  | a :: x => by
    unfold Op.bytesLess
    rw [u_bl_irr x]
    simp

theorem u_bl_trans : ∀ x y z : List UInt8, Op.bytesLess x y = true → Op.bytesLess y z = true → Op.bytesLess x z = true
  | [], [], _, h, _ => by simp [Op.bytesLess] at h
  | [], _ :: _, [], _, h => by simp [Op.bytesLess] at h
  | [], _ :: _, _ :: _, _, _ => by simp [Op.bytesLess]
  | _ :: _, [], _, h, _ => by simp [Op.bytesLess] at h
  | _ :: _, _ :: _, [], _, h => by simp [Op.bytesLess] at h
  | a :: x, b :: y, c :: z, h, g => by
    unfold Op.bytesLess at h g ⊢
    simp only [Bool.or_eq_true, decide_eq_true_eq, Bool.and_eq_true, beq_iff_eq] at h g ⊢
    rcases h with h | ⟨rfl, h⟩
    · rcases g with g | ⟨rfl, g⟩
      · exact .inl (UInt8.lt_trans h g)
      · exact .inl h
    · rcases g with g | ⟨rfl, g⟩
      · exact .inl g
      · exact .inr ⟨rfl, u_bl_trans x y z h g⟩

theorem u_bl_tri : ∀ x y : List UInt8, Op.bytesLess x y = false → Op.bytesLess y x = false → x = y
  | [], [], _, _ => rfl
  | [], _ :: _, h, _ => by simp [Op.bytesLess] at h
  | _ :: _, [], _, h => by simp [Op.bytesLess] at h
  | a :: x, b :: y, h, g => by
    unfold Op.bytesLess at h g
    simp only [Bool.or_eq_false_iff, decide_eq_false_iff_not, Bool.and_eq_false_iff, beq_eq_false_iff_ne] at h g
    have e : a = b := by
      have h1 := UInt8.not_lt.1 h.1
      have h2 := UInt8.not_lt.1 g.1
      exact UInt8.le_antisymm h2 h1
    subst e
    have h3 : Op.bytesLess x y = false := h.2.resolve_left (fun q => q rfl)
    have g3 : Op.bytesLess y x = false := g.2.resolve_left (fun q => q rfl)
    rw [u_bl_tri x y h3 g3]

theorem u_ltB_irr (x : ByteArray) : u_ltB x x = false := u_bl_irr _

theorem u_ltB_trans {x y z : ByteArray} (h : u_ltB x y = true) (g : u_ltB y z = true) : u_ltB x z = true := u_bl_trans _ _ _ h g

theorem u_ltB_tri {x y : ByteArray} (h : u_ltB x y = false) (g : u_ltB y x = false) : x = y := by
  have e := u_bl_tri _ _ h g
  have := str_beq x y
  rw [e] at this
  simpa using this.symm

theorem u_blk_below {w w1 : World} {B : Nat} {o : Obj} (h : w.heap[B]? = some o) (k : Below w.heap.size w w1) : w1.heap[B]? = some o := (k.block B (lt_of_heap h)).trans h

theorem u_blk_alloc {w : World} {B : Nat} {o : Obj} (h : w.heap[B]? = some o) (o' : Obj) : (w.alloc o').heap[B]? = some o := (Below.heap_alloc w o' B (lt_of_heap h)).trans h

/-- All blocks that are not of these stand as they stood. -/
structure u_KeepB (p : Nat → Prop) (w w' : World) : Prop where
  os : w'.os = w.os
  tape : w'.tape = w.tape
  output : w'.output = w.output
  size : w.heap.size ≤ w'.heap.size
  block : ∀ k, k < w.heap.size → ¬ p k → w'.heap[k]? = w.heap[k]?

theorem u_KeepB.refl (p : Nat → Prop) (w : World) : u_KeepB p w w := ⟨rfl, rfl, rfl, Nat.le_refl _, fun _ _ _ => rfl⟩

theorem u_KeepB.trans {p : Nat → Prop} {a b c : World} (h : u_KeepB p a b) (k : u_KeepB p b c) : u_KeepB p a c :=
  ⟨k.os.trans h.os, k.tape.trans h.tape, k.output.trans h.output, Nat.le_trans h.size k.size, fun i hi hr => (k.block i (Nat.lt_of_lt_of_le hi h.size) hr).trans (h.block i hi hr)⟩

theorem u_KeepB.of_below (p : Nat → Prop) {w w' : World} (h : Below w.heap.size w w') : u_KeepB p w w' := ⟨h.os, h.tape, h.output, h.size, fun i hi _ => h.block i hi⟩

theorem u_KeepB.of_grown {p : Nat → Prop} {w w' : World} {g : Nat} (h : w.grownBy w' (some g)) (hp : p g) : u_KeepB p w w' :=
  ⟨h.os, h.tape, h.output, h.size, fun i hi hr => h.block i hi (fun e => hr (by rw [Option.some.inj e]; exact hp))⟩

theorem u_KeepB.of_set {p : Nat → Prop} (w : World) {g : Nat} (i : Nat) (v : Value) (hp : p g) : u_KeepB p w (w.setCell ⟨g, i, none⟩ v) := u_KeepB.of_grown (Lib.grownBy_setCell w g i v) hp

theorem u_KeepB.mono {p q : Nat → Prop} {w w' : World} (h : u_KeepB p w w') (hq : ∀ k, p k → q k) : u_KeepB q w w' := ⟨h.os, h.tape, h.output, h.size, fun i hi hr => h.block i hi (fun e => hr (hq i e))⟩

theorem u_KeepB.below {p : Nat → Prop} {w w' : World} {B : Nat} (h : u_KeepB p w w') (hB : B ≤ w.heap.size) (hp : ∀ k, p k → B ≤ k) : Below B w w' :=
  ⟨h.os, h.tape, h.output, h.size, fun i hi => h.block i (by omega) (fun e => by have := hp i e; omega)⟩

theorem u_box2c {w : World} {g : Nat} {x y : Value} {T : TypeId} (h : w.heap[g]? = some (.cells #[x, y] T (0, 0))) : w.cell? ⟨g, 0, none⟩ = some x ∧ w.cell? ⟨g, 1, none⟩ = some y :=
  ⟨by rw [Lib.cell_of_heap h]; rfl, by rw [Lib.cell_of_heap h]; rfl⟩

theorem u_own_len {w : World} {B : Nat} {E : TypeId} {s n : Nat} {v : Value} {xs : List Value} (h : w.ownsRow B E s v n xs) : ∃ a c, v = .slice a n c := by
  rcases h.2 with ⟨rfl, rfl⟩ | ⟨g, cap, cur, rfl, _⟩
  · exact ⟨none, 0, rfl⟩
  · exact ⟨_, _, rfl⟩

theorem u_own_pos {w : World} {B : Nat} {E : TypeId} {s n : Nat} {v : Value} {xs : List Value} (h : w.ownsRow B E s v n xs) (hn : 0 < n) : ∃ b c, v = .slice (some ⟨b, 0, none⟩) n c ∧ b < w.heap.size ∧ B ≤ b ∧ n ≤ c ∧ ∀ j, j < n * s → w.cell? ⟨b, j, none⟩ = xs[j]? := by
  rcases h.2 with ⟨rfl, rfl⟩ | ⟨g, cap, cur, rfl, hB, hh, hc, _, hs, ht⟩
  · omega
  · refine ⟨g, cap, rfl, lt_of_heap hh, hB, hc, fun j hj => ?_⟩
    rw [Lib.cell_of_heap hh, ← ht, List.getElem?_take, if_pos hj, Array.getElem?_toList]

def u_digB (k : Nat) : UInt8 := UInt8.ofNat (48 + k % 10)

def u_decB (k : Nat) (out : ByteArray) : ByteArray := if h : k = 0 then out else u_decB (k / 10) ((⟨#[u_digB k]⟩ : ByteArray) ++ out)
termination_by k
decreasing_by omega

theorem u_decB_zero (out : ByteArray) : u_decB 0 out = out := by unfold u_decB; simp

theorem u_decB_step {k : Nat} (h : ¬ k = 0) (out : ByteArray) : u_decB k out = u_decB (k / 10) ((⟨#[u_digB k]⟩ : ByteArray) ++ out) := by rw [u_decB]; simp [h]

/-- The text of a mark. -/
def u_markS (k : Nat) : ByteArray := if k = 0 then ⟨#[109, 48]⟩ else (⟨#[109]⟩ : ByteArray) ++ u_decB k ⟨#[]⟩

theorem u_decB_size : ∀ (k : Nat) (out : ByteArray), (u_decB k out).size ≤ k + out.size := by
  intro k
  induction k using Nat.strongRecOn with
  | _ k ih =>
    intro out
    by_cases h : k = 0
    · subst h; rw [u_decB_zero]; omega
    · rw [u_decB_step h]
      have := ih (k / 10) (by omega) ((⟨#[u_digB k]⟩ : ByteArray) ++ out)
      rw [ByteArray.size_append, show (⟨#[u_digB k]⟩ : ByteArray).size = 1 from rfl] at this
      omega

theorem u_markS_size (k : Nat) : (u_markS k).size ≤ k + 2 := by
  unfold u_markS
  split
  · show 2 ≤ k + 2
    omega
  · rw [ByteArray.size_append, show (⟨#[109]⟩ : ByteArray).size = 1 from rfl]
    have := u_decB_size k ⟨#[]⟩
    rw [show (⟨#[]⟩ : ByteArray).size = 0 from rfl] at this
    omega

theorem u_conv1 (W : World) (b : UInt8) : (convert 121 9 (.slice (some ⟨W.heap.size, 0, none⟩) 1 1)).run Tryz.prog (W.alloc (.cells #[.int .u8 b.toNat] 5)) = .ok (.string ⟨#[b]⟩) (W.alloc (.cells #[.int .u8 b.toNat] 5)) := by
  have hown : (W.alloc (.cells #[.int .u8 b.toNat] 5)).ownsRow 0 5 1 (.slice (some ⟨W.heap.size, 0, none⟩) [b].length 1) [b].length (Lib.byteCells [b]) :=
    ⟨rfl, .inr ⟨W.heap.size, 1, #[.int .u8 b.toNat], rfl, Nat.zero_le _, heap_alloc_new W _, Nat.le_refl _, by decide, rfl, rfl⟩⟩
  exact run_str_own (P := Tryz.prog) (src := 121) (dst := 9) Tryz.underlying121 Tryz.underlying5 Tryz.underlying9 hown

theorem u_dig_wrap (k : Nat) : IntKind.u8.wrap (48 + (k : Int) % 10) = ((u_digB k).toNat : Int) := by
  have e : (u_digB k).toNat = 48 + k % 10 := by
    unfold u_digB
    rw [UInt8.toNat_ofNat']
    omega
  rw [e]
  rw [show (48 : Int) + (k : Int) % 10 = ((48 + k % 10 : Nat) : Int) by omega]
  exact IntWalk.u8_in _ (by omega)

set_option maxRecDepth 100000 in
set_option maxHeartbeats 1000000 in
theorem u_cMarkText (k : Nat) (hk : k ≤ 1000000000) (w : World) :
    Calls Tryz.prog 50 #[.int .i64 k] w fun e w' => e = .returned (.string (u_markS k)) ∧ Below w.heap.size w w' := by
  by_cases h0 : k = 0
  · subst h0
    rw [show u_markS 0 = ⟨#[109, 48]⟩ from rfl]
    go_enter Tryz.func50, Tryz.ntmps50
    go_wp2
    go_ret
    exact ⟨rfl, Below.refl _ _⟩
  · have hd : decide ((k : Int) ≤ 0) = false := by simp; omega
    obtain ⟨V, hV⟩ : ∃ V, u_markS k = V := ⟨_, rfl⟩
    have HV := hid (show (⟨#[109]⟩ : ByteArray) ++ u_decB k ⟨#[]⟩ = V by rw [← hV]; unfold u_markS; rw [if_neg h0])
    rw [hV]
    clear hV
    go_enter Tryz.func50, Tryz.ntmps50
    go_wp2_with fail
    clear hd h0
    go_loopw [0, 3] (fun x y wr => ∃ (m : Nat) (out : ByteArray), x = .int .i64 (m : Int) ∧ m ≤ 1000000000 ∧ y = .string out ∧ out.size + m ≤ 1000000000 ∧ Hid (u_decB m out = u_decB k ⟨#[]⟩) ∧ Hid (Below w.heap.size w wr)) (fun x _ _ => (intOf x).toNat)
    case atStart => exact ⟨k, ⟨#[]⟩, rfl, hk, rfl, by show 0 + k ≤ 1000000000; omega, rfl, Below.refl _ _⟩
    case round =>
      obtain ⟨m, out, rfl, hm, rfl, hs, HD, HB⟩ := hrel
      by_cases hz : m = 0
      · subst hz
        have HW := hid (show (⟨#[109]⟩ : ByteArray) ++ out = V by rw [← HV.out, ← HD.out, u_decB_zero])
        go_wp2_with fail
        go_ret
        exact ⟨by rw [← HW.out]; rfl, HB.out⟩
      · have hp : decide ((0 : Int) < (m : Int)) = true := by simp; omega
        have hd := u_dig_wrap m
        have hc := u_conv1 wr (u_digB m)
        have HN := hid (show u_decB (m / 10) ((⟨#[u_digB m]⟩ : ByteArray) ++ out) = u_decB k ⟨#[]⟩ by rw [← u_decB_step hz]; exact HD.out)
        have hq : (m : Int).tdiv 10 = ((m / 10 : Nat) : Int) := (Int.ofNat_tdiv m 10).symm
        have hr : (m : Int).tmod 10 = (m : Int) % 10 := Int.tmod_eq_emod_of_nonneg (by omega)
        generalize u_digB m = D at *
        go_wp2_with fail
        go_roundw
        case rel => exact ⟨m / 10, (⟨#[D]⟩ : ByteArray) ++ out, by first | rfl | rw [← hq] | simp, by omega, rfl, by rw [ByteArray.size_append, show (⟨#[D]⟩ : ByteArray).size = 1 from rfl]; omega, HN.out, HB.out.alloc HB.out.size _⟩
        case measure => simp [intOf]; omega

theorem u_gr_trans {w w1 w2 : World} {row : Option Nat} (h : w.grownBy w1 row) (k : w1.grownBy w2 row) : w.grownBy w2 row :=
  ⟨k.os.trans h.os, k.tape.trans h.tape, k.output.trans h.output, Nat.le_trans h.size k.size, fun i hi hr => (k.block i (Nat.lt_of_lt_of_le hi h.size) hr).trans (h.block i hi hr)⟩

theorem u_gr_below {w w1 w2 : World} {row : Option Nat} (h : w.grownBy w1 row) (k : Below w1.heap.size w1 w2) : w.grownBy w2 row :=
  ⟨k.os.trans h.os, k.tape.trans h.tape, k.output.trans h.output, Nat.le_trans h.size k.size, fun i hi hr => (k.block i (Nat.lt_of_lt_of_le hi h.size)).trans (h.block i hi hr)⟩

theorem u_gr_set {w w1 : World} {b : Nat} (h : w.grownBy w1 (some b)) (j : Nat) (v : Value) : w.grownBy (w1.setCell ⟨b, j, none⟩ v) (some b) := u_gr_trans h (Lib.grownBy_setCell w1 b j v)

/-- A store into a row of cells. -/
theorem u_heap_set {w : World} {g i : Nat} {cur : Array Value} {T : TypeId} (h : w.heap[g]? = some (.cells cur T (0, 0))) (v : Value) :
    (w.setCell ⟨g, i, none⟩ v).heap[g]? = some (.cells (cur.setIfInBounds i v) T (0, 0)) := by
  simp [World.setCell, Array.getElem?_modify, h]

theorem u_cell_there {w : World} {g i : Nat} {cur : Array Value} {T : TypeId} (h : w.heap[g]? = some (.cells cur T (0, 0))) (hi : i < cur.size) : ∃ v, w.cell? ⟨g, i, none⟩ = some v := by
  rw [Lib.cell_of_heap h]
  exact ⟨cur[i], Array.getElem?_eq_getElem hi⟩

end Go.Proofs.YtnjepdggefchnaaGreatDoor
