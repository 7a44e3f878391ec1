/- What a name means: declarations, which are right, which one is the nearest (mathematics alone). Contracts of the specification's l1Of, l9Declares, l9Right. Contracts of the specification's l9Meaning, l9Element, Meaning, l9Known, Known. -/
import Derived.Test.YtnbpcgeojmikoaaGreatM7
import Derived.Test.YtnbpcgeojmikoaaGreatM5
import Derived.Test.YtnbpcgeojmikoaaGreatM8
namespace Go.Proofs.YtnbpcgeojmikoaaGreat
set_option linter.unusedVariables false

/-- Every sign is one of these, and there are at most so many. -/
def ofB (signs : ByteArray) (most : Nat) (s : ByteArray) : Bool := s.data.toList.all (fun c => signs.data.toList.any fun d => decide (d = c)) && decide (s.size ≤ most)

def nsS : ByteArray := ⟨#[110, 115]⟩
def sgnS : ByteArray := ⟨#[97, 98, 99, 100, 101, 102, 103, 104, 105, 106, 107, 108, 109, 110, 111, 112, 113, 114, 115, 116, 117, 118, 119, 120, 121, 122, 48, 49, 50, 51, 52, 53, 54, 55, 56, 57, 47, 46]⟩

def preS (s : ByteArray) : ByteArray := ⟨(partP s.data.toList).toArray⟩
def locS (s : ByteArray) : ByteArray := ⟨(partL s.data.toList).toArray⟩

/-- The prefix that an attr declares. -/
noncomputable def declF (x : At) : Option ByteArray := open Classical in if x.name = nsS then some ⟨#[]⟩ else if preS x.name = nsS then some (locS x.name) else none

noncomputable def rightB (x : At) : Bool := match declF x with
  | none => true
  | some p => ofB sgnS 20 x.value && (decide (p.size = 0) || !decide (x.value.size = 0))

/-- It declares this one. -/
noncomputable def declB (p : ByteArray) (x : At) : Bool := open Classical in decide (declF x = some p)

/-- All attrs from an element on, outwards. -/
def upAts (ts : List Tk) (c : List Nat) : List At := c.flatMap fun j => match ts[j]? with | some t => t.attrs | none => []

/-- What a prefix means by these. -/
noncomputable def meanL (l : List At) (p : ByteArray) : Option ByteArray :=
  if l.all rightB then (match l.find? (declB p) with | some x => some x.value | none => if p.size = 0 then some ⟨#[]⟩ else none) else none

noncomputable def meanF (ts : List Tk) (k : Nat) (p : ByteArray) : Option ByteArray := meanL (upAts ts (chainF ts (k + 1))) p

/-- What the search holds behind these attrs. -/
structure Held (l : List At) (p : ByteArray) (m : ByteArray) (found set : Bool) : Prop where
  right : l.all rightB = true
  isSet : set = (l.find? (declB p)).isSome
  isM : m = ((l.find? (declB p)).map (·.value)).getD ⟨#[]⟩
  isF : found = (decide (p.size = 0) || set)

theorem Held.start (p : ByteArray) : Held [] p ⟨#[]⟩ (decide (p.size = 0)) false := ⟨rfl, rfl, rfl, by rw [Bool.or_false]⟩

theorem Held.next {l : List At} {p m : ByteArray} {found set : Bool} (h : Held l p m found set) {x : At} (hr : rightB x = true) (hx : (declB p x && !set) = false) : Held (l ++ [x]) p m found set := by
  have e : (l ++ [x]).find? (declB p) = l.find? (declB p) := by
    rw [List.find?_append]
    cases hf : l.find? (declB p) with
    | some y => rfl
    | none =>
      have hs : set = false := by rw [h.isSet, hf]; rfl
      rw [hs] at hx
      simp at hx
      simp [hx]
  exact ⟨by rw [List.all_append, h.right]; simp [hr], by rw [e]; exact h.isSet, by rw [e]; exact h.isM, h.isF⟩

theorem Held.hit {l : List At} {p m : ByteArray} {found : Bool} (h : Held l p m found false) {x : At} (hr : rightB x = true) (hx : declB p x = true) : Held (l ++ [x]) p x.value true true := by
  have hn : l.find? (declB p) = none := by
    cases hf : l.find? (declB p) with
    | some y => have := h.isSet; rw [hf] at this; cases this
    | none => rfl
  have e : (l ++ [x]).find? (declB p) = some x := by
    rw [List.find?_append, hn]
    simp [hx]
  exact ⟨by rw [List.all_append, h.right]; simp [hr], by rw [e]; rfl, by rw [e]; rfl, by rw [Bool.or_true]⟩

theorem Held.fin {l : List At} {p m : ByteArray} {found set : Bool} (h : Held l p m found set) : (meanL l p).getD ⟨#[]⟩ = m ∧ (meanL l p).isSome = found := by
  unfold meanL
  rw [if_pos h.right, h.isM, h.isF, h.isSet]
  cases hf : l.find? (declB p) with
  | some y => simp
  | none =>
    by_cases hp : p.size = 0
    · simp [hp]
    · simp [hp]

theorem mean_wrong {l : List At} {x : At} (hx : x ∈ l) (h : rightB x = false) (p : ByteArray) : meanL l p = none := by
  unfold meanL
  rw [if_neg]
  intro ha
  have := List.all_eq_true.1 ha x hx
  rw [h] at this
  cases this

/-- The attrs from one on are his and those further out. -/
theorem upAts_at {ts : List Tk} {c : List Nat} {m : Nat} (hm : m < c.length) (hc : c[m] < ts.length) : upAts ts (c.take (m + 1)) = upAts ts (c.take m) ++ ts[c[m]].attrs := by
  unfold upAts
  rw [List.take_succ_eq_append_getElem hm, List.flatMap_append]
  simp [List.getElem?_eq_getElem hc]

theorem upAts_mem {ts : List Tk} {c : List Nat} {m : Nat} (hm : m < c.length) (hc : c[m] < ts.length) {x : At} (hx : x ∈ ts[c[m]].attrs) : x ∈ upAts ts c := by
  unfold upAts
  exact List.mem_flatMap.2 ⟨c[m], List.getElem_mem hm, by rw [List.getElem?_eq_getElem hc]; exact hx⟩

end Go.Proofs.YtnbpcgeojmikoaaGreat

namespace Go.Proofs.YtnbpcgeojmikoaaGreat
open Go.RowKit
set_option linter.unusedVariables false
set_option linter.unusedSimpArgs false

def inB (signs : ByteArray) (c : UInt8) : Bool := signs.data.toList.any fun d => decide (d = c)

theorem u8_beq (a b : UInt8) : ((a.toNat : Int) == (b.toNat : Int)) = decide (a = b) := by
  by_cases h : a = b
  · subst h; simp
  · rw [decide_eq_false h]
    have : ¬ a.toNat = b.toNat := fun e => h (UInt8.toNat_inj.1 e)
    simp
    omega

set_option maxHeartbeats 2000000 in
theorem c_spec_l1Of (signs : ByteArray) (most : Nat) (s : ByteArray) (w : World) (hs : s.size ≤ 1048576) (hg : signs.size ≤ 256) (hm : most ≤ 1000) :
    Calls Tryz.prog 77 #[.string s, .string signs, .int .i64 (most : Int)] w fun e w' => e = .returned (.bool (ofB signs most s)) ∧ Below w.heap.size w w' := by
  obtain ⟨V, hV⟩ : ∃ V, ofB signs most s = V := ⟨_, rfl⟩
  have HV := hid hV
  rw [hV]
  clear hV
  go_enter Tryz.func77, Tryz.ntmps77
  go_wp2_with fail
  go_loopw [7] (fun k wr => ∃ i : Nat, k = .int .i64 (i : Int) ∧ i ≤ s.size ∧ Hid ((s.data.toList.take i).all (inB signs) = true) ∧ Hid (Below w.heap.size w wr)) (fun k _ => s.size - (intOf k).toNat)
  case atStart => exact ⟨0, rfl, Nat.zero_le _, rfl, Below.refl _ _⟩
  case round =>
    obtain ⟨i, rfl, hi, HA, HB⟩ := hrel
    by_cases hlt : i < s.size
    · have hin : (i : Int) < (s.size : Int) := by omega
      go_wp2_with fail
      go_loopw [8, 9] (fun v k wr => ∃ j : Nat, k = .int .i64 (j : Int) ∧ j ≤ signs.size ∧ v = .bool ((signs.data.toList.take j).any fun d => decide (d = s[i])) ∧ Hid (Below w.heap.size w wr)) (fun _ k _ => signs.size - (intOf k).toNat)
      case atStart => exact ⟨0, rfl, Nat.zero_le _, rfl, HB.out⟩
      case round =>
        clear HB
        obtain ⟨j, rfl, hj, rfl, HB⟩ := hrel
        by_cases hjl : j < signs.size
        · have hjn : (j : Int) < (signs.size : Int) := by omega
          have HE := hid (show (signs.data.toList.take (j + 1)).any (fun d => decide (d = s[i])) = ((signs.data.toList.take j).any (fun d => decide (d = s[i])) || decide (signs[j] = s[i])) by
            rw [take_snoc signs j hjl, List.any_append]
            simp)
          generalize (signs.data.toList.take j).any (fun d => decide (d = s[i])) = P at *
          have hq := u8_beq signs[j] s[i]
          generalize decide (signs[j] = s[i]) = D at *
          cases P
          · go_wp2_with fail
            go_quiet (fail)
            go_wp2_with fail
            go_roundw
            case rel => exact ⟨j + 1, by go_num, by omega, by rw [HE.out]; rfl, below_drewN HB.out _⟩
            case measure => simp [intOf]; omega
          · go_wp2_with fail
            go_quiet (fail)
            go_wp2_with fail
            go_roundw
            case rel => exact ⟨j + 1, by go_num, by omega, by rw [HE.out]; rfl, below_drewN HB.out _⟩
            case measure => simp [intOf]; omega
        · have hje : j = signs.size := by omega
          subst hje
          rw [take_full signs _ (by omega)]
          have HI := hid (show signs.data.toList.any (fun d => decide (d = s[i])) = inB signs s[i] from rfl)
          rw [HI.out]
          cases hP : inB signs s[i]
          · have HF := hid (show V = false by
              rw [← HV.out]
              unfold ofB
              rw [Bool.and_eq_false_imp]
              intro h
              have h2 := List.all_eq_true.1 h s[i] (List.getElem_mem _)
              have h3 : inB signs s[i] = true := h2
              rw [hP] at h3
              cases h3)
            clear hP
            go_wp2_with fail
            go_ret
            exact ⟨by rw [HF.out]; rfl, HB.out⟩
          · have HA2 := hid (show (s.data.toList.take (i + 1)).all (inB signs) = true by rw [take_snoc s i hlt, List.all_append, HA.out]; simp [hP])
            clear hP
            go_wp2_with fail
            go_roundw
            case rel => exact ⟨i + 1, by go_num, by omega, HA2.out, HB.out⟩
            case measure => simp [intOf]; omega
    · have hie : i = s.size := by omega
      subst hie
      have hA := HA.out
      rw [take_full s _ (by omega)] at hA
      have HF := hid (show V = decide (s.size ≤ most) by
        rw [← HV.out]
        unfold ofB
        have h : (s.data.toList.all fun c => signs.data.toList.any fun d => decide (d = c)) = true := hA
        rw [h, Bool.true_and])
      clear hA HA
      go_wp2_with fail
      go_ret
      exact ⟨by rw [HF.out]; rfl, HB.out⟩

theorem ns_beq (s : ByteArray) : (s.toList == [110, 115]) = decide (s = nsS) := by
  rw [← str_beq]
  have e : nsS.toList = [110, 115] := by rw [ByteArray.toList_eq]; rfl
  rw [e]

theorem cPartsX (s : ByteArray) (w : World) (h0 : s.size ≤ 1048576) :
    Calls Tryz.prog 26 #[.string s] w fun e w' => e = .returned (.tuple #[.string (preS s), .string (locS s)]) ∧ Below w.heap.size w w' := c_spec_Parts s w h0

set_option maxHeartbeats 2000000 in
theorem c_spec_l9Declares (x : At) (w : World) (hz : x.name.size ≤ 1048576) :
    Calls Tryz.prog 28 #[.agg #[.string x.name, .string x.value]] w fun e w' => e = .returned (.tuple #[.string ((declF x).getD ⟨#[]⟩), .bool (declF x).isSome]) ∧ Below w.heap.size w w' := by
  have HB := hid ((Below.refl w.heap.size w).alloc (Nat.le_refl _) (.cells #[.string x.name, .string x.value] 57))
  by_cases h1 : x.name = nsS
  · have HE := hid (show declF x = some ⟨#[]⟩ by unfold declF; rw [if_pos h1])
    rw [HE.out]
    have hd : (x.name.toList == [110, 115]) = true := by rw [ns_beq]; exact decide_eq_true h1
    clear h1
    generalize x.name = n at *
    generalize x.value = v at *
    go_enter Tryz.func28, Tryz.ntmps28
    go_wp2_with fail
    go_ret2
    exact ⟨rfl, HB.out⟩
  · have hd : (x.name.toList == [110, 115]) = false := by rw [ns_beq]; exact decide_eq_false h1
    have C := hid (fun wx => cPartsX x.name wx hz)
    by_cases h2 : preS x.name = nsS
    · have HE := hid (show declF x = some (locS x.name) by unfold declF; rw [if_neg h1, if_pos h2])
      rw [HE.out]
      have hd2 : ((preS x.name).toList == [110, 115]) = true := by rw [ns_beq]; exact decide_eq_true h2
      clear h1 h2 HE
      generalize preS x.name = P at *
      generalize locS x.name = L at *
      generalize x.name = n at *
      generalize x.value = v at *
      go_enter Tryz.func28, Tryz.ntmps28
      go_wp2_with fail
      refine (C.out _).mono ?_
      rintro e w1 ⟨rfl, hb1⟩
      have HB1 := hid (bb HB.out hb1)
      clear hb1 C
      go_wp2_with fail
      go_ret2
      exact ⟨rfl, HB1.out⟩
    · have HE := hid (show declF x = none by unfold declF; rw [if_neg h1, if_neg h2])
      rw [HE.out]
      have hd2 : ((preS x.name).toList == [110, 115]) = false := by rw [ns_beq]; exact decide_eq_false h2
      clear h1 h2 HE
      generalize preS x.name = P at *
      generalize locS x.name = L at *
      generalize x.name = n at *
      generalize x.value = v at *
      go_enter Tryz.func28, Tryz.ntmps28
      go_wp2_with fail
      refine (C.out _).mono ?_
      rintro e w1 ⟨rfl, hb1⟩
      have HB1 := hid (bb HB.out hb1)
      clear hb1 C
      go_wp2_with fail
      go_ret2
      exact ⟨rfl, HB1.out⟩

theorem box_two (w : World) (x y : Value) (T : TypeId) : (w.alloc (.cells #[x, y] T)).cell? ⟨w.heap.size, 0, none⟩ = some x ∧ (w.alloc (.cells #[x, y] T)).cell? ⟨w.heap.size, 1, none⟩ = some y ∧ w.heap.size < (w.alloc (.cells #[x, y] T)).heap.size := by
  refine ⟨?_, ?_, by simp⟩
  · rw [Lib.cell_of_heap (heap_alloc_new w _)]; rfl
  · rw [Lib.cell_of_heap (heap_alloc_new w _)]; rfl

set_option maxHeartbeats 2000000 in
theorem c_spec_l9Right (x : At) (w : World) (hz : x.name.size ≤ 1048576) (hv : x.value.size ≤ 1048576) :
    Calls Tryz.prog 50 #[.agg #[.string x.name, .string x.value]] w fun e w' => e = .returned (.bool (rightB x)) ∧ Below w.heap.size w w' := by
  have HB := hid ((Below.refl w.heap.size w).alloc (Nat.le_refl _) (.cells #[.string x.name, .string x.value] 57))
  have HX := hid (box_two w (.string x.name) (.string x.value) 57)
  have C := hid (fun wx => c_spec_l9Declares x wx hz)
  have CO := hid (fun wx => c_spec_l1Of sgnS 20 x.value wx hv (by decide) (by omega))
  have EV := empty_is x.value
  cases hd : declF x with
  | none =>
    have HE := hid (show rightB x = true by unfold rightB; rw [hd])
    rw [HE.out]
    rw [hd] at C
    clear hd HE CO EV
    generalize x.name = n at *
    generalize x.value = v at *
    go_enter Tryz.func50, Tryz.ntmps50
    go_wp2_with fail
    refine (C.out _).mono ?_
    rintro e w1 ⟨rfl, hb1⟩
    have HB1 := hid (bb HB.out hb1)
    clear hb1 C
    go_wp2_with fail
    go_ret
    exact ⟨rfl, HB1.out⟩
  | some p =>
    have HE := hid (show rightB x = (ofB sgnS 20 x.value && (decide (p.size = 0) || !decide (x.value.size = 0))) by unfold rightB; rw [hd])
    rw [HE.out]
    rw [hd] at C
    have EP := empty_is p
    clear hd HE
    generalize ofB sgnS 20 x.value = B at *
    generalize decide (p.size = 0) = D at *
    generalize decide (x.value.size = 0) = F at *
    generalize x.name = n at *
    generalize x.value = v at *
    unfold sgnS at CO
    go_enter Tryz.func50, Tryz.ntmps50
    go_wp2_with fail
    refine (C.out _).mono ?_
    rintro e w1 ⟨rfl, hb1⟩
    have HB1 := hid (bb HB.out hb1)
    have d2 := hid ((hb1.cell (p := ⟨w.heap.size, 1, none⟩) HX.out.2.2).trans HX.out.2.1)
    have d3 := hid (Nat.lt_of_lt_of_le HX.out.2.2 hb1.size)
    have d2' := d2.out
    clear hb1 C HB HX
    go_wp2_with fail
    refine (CO.out _).mono ?_
    rintro e w2 ⟨rfl, hb2⟩
    have HB2 := hid (bb HB1.out hb2)
    have e2 := (hb2.cell (p := ⟨w.heap.size, 1, none⟩) d3.out).trans d2.out
    clear hb2 CO HB1 d2' d2 d3
    cases B
    · go_wp2_with fail
      go_ret
      exact ⟨rfl, HB2.out⟩
    · cases D
      · go_wp2_with fail
        go_ret
        exact ⟨by cases F <;> rfl, HB2.out⟩
      · go_wp2_with fail
        go_ret
        exact ⟨rfl, HB2.out⟩

end Go.Proofs.YtnbpcgeojmikoaaGreat

namespace Go.Proofs.YtnbpcgeojmikoaaGreat
open Go.RowKit
set_option linter.unusedVariables false
set_option linter.unusedSimpArgs false

/-- Where one of the chain lies, and who is next. -/
theorem chain_at {ts : List Tk} (hT : TreeP ts) {k : Nat} (hk : k < ts.length) : (∀ m (h : m < (chainF ts (k + 1)).length), (chainF ts (k + 1))[m] < ts.length ∧ parI ts (chainF ts (k + 1))[m] = kAt (chainF ts (k + 1)) (m + 1) ∧ kAt (chainF ts (k + 1)) (m + 1) < ((chainF ts (k + 1))[m] : Int)) ∧ kAt (chainF ts (k + 1)) 0 = (k : Int) := by
  have hL := linked_all k (fun j hj => (hT.2.2.2.2 j (by omega)).2.1)
  refine ⟨fun m h => ?_, rfl⟩
  have l1 := (linked_from hL.1 m h).1 hT.2.2.1
  refine ⟨by have := hL.2 _ (List.getElem_mem h); omega, ?_, ?_⟩
  · rw [l1]
    by_cases h' : m + 1 < (chainF ts (k + 1)).length
    · rw [dif_pos h', kAt_lt h']
    · rw [dif_neg h']
      have : m + 1 = (chainF ts (k + 1)).length := by omega
      rw [this, kAt_end]
  · by_cases h' : m + 1 < (chainF ts (k + 1)).length
    · rw [kAt_lt h']
      have := linked_lt hL.1 m h'
      omega
    · have : m + 1 = (chainF ts (k + 1)).length := by omega
      rw [this, kAt_end]
      omega

/-- One of the chain: what is known of it. -/
theorem chain_step {ts : List Tk} {c : List Nat} (h : ∀ m (h : m < c.length), c[m] < ts.length ∧ parI ts c[m] = kAt c (m + 1) ∧ kAt c (m + 1) < (c[m] : Int)) {m : Nat} (hm : m < c.length) :
    ∃ (x : Nat) (t : Tk), x < ts.length ∧ kAt c m = (x : Int) ∧ t.kind = kAt c (m + 1) ∧ kAt c (m + 1) < (x : Int) ∧ t ∈ ts ∧ upAts ts (c.take (m + 1)) = upAts ts (c.take m) ++ t.attrs ∧ (∀ y ∈ t.attrs, y ∈ upAts ts c) ∧
      ∀ wx a, TkRow wx a ts → ∃ b o aa cap, a = some ⟨b, o, none⟩ ∧ b < wx.heap.size ∧ wx.cell? ⟨b, o + x * 4, none⟩ = some (.int .i64 t.kind) ∧ wx.cell? ⟨b, o + x * 4 + 2, none⟩ = some (.slice aa t.attrs.length cap) ∧ AtRow wx aa t.attrs := by
  obtain ⟨h1, h2, h3⟩ := h m hm
  refine ⟨c[m], ts[c[m]], h1, kAt_lt hm, by rw [← parI_at h1, h2], h3, List.getElem_mem h1, upAts_at hm h1, fun y hy => upAts_mem hm h1 hy, fun wx a hr => ?_⟩
  obtain ⟨b, o, aa, ca, e, hb, q0, q1, q2, q3, q4⟩ := hr c[m] h1
  exact ⟨b, o, aa, ca, e, hb, q0, q2, q4⟩

theorem kAt_ge (c : List Nat) (m : Nat) : -1 ≤ kAt c m := by unfold kAt; split <;> omega

set_option maxRecDepth 4000 in
set_option maxHeartbeats 4000000 in
theorem c_spec_l9Meaning (a : Option Addr) (cap : Nat) (ts : List Tk) (k : Nat) (p : ByteArray) (w : World) (hR : TkRow w a ts) (hT : TreeP ts) (hk : k < ts.length) (hn : ts.length ≤ 1048576) (hz : TksSz 1048576 ts) (hp : p.size ≤ 1048576) :
    Calls Tryz.prog 27 #[.slice a ts.length cap, .int .i64 (k : Int), .string p] w fun e w' => e = .returned (.tuple #[.string ((meanF ts k p).getD ⟨#[]⟩), .bool (meanF ts k p).isSome]) ∧ Below w.heap.size w w' := by
  obtain ⟨V, hV⟩ : ∃ V, meanF ts k p = V := ⟨_, rfl⟩
  have HCH := hid (chain_at hT hk)
  unfold meanF at hV
  rw [show meanF ts k p = V from hV]
  generalize chainF ts (k + 1) = c at *
  have HV := hid hV
  have HR := hid hR
  have HZ := hid hz
  obtain ⟨b, o, _, _, ea, -⟩ := hR k hk
  subst ea
  clear hV hR hz hT
  have E := empty_is p
  have HS := hid (Held.start p)
  generalize decide (p.size = 0) = D at *
  obtain ⟨n, hnn⟩ : ∃ n, ts.length = n := ⟨_, rfl⟩
  have HN := hid hnn
  rw [hnn] at hn hk ⊢
  clear hnn
  go_enter Tryz.func27, Tryz.ntmps27
  go_wp2_with fail
  go_loopw [8, 9, 10, 11] (fun v8 v9 v10 v11 wr => ∃ (m : Nat) (mv : ByteArray) (fo se : Bool), v8 = .string mv ∧ v9 = .bool fo ∧ v10 = .bool se ∧ Hid (v11 = .int .i64 (kAt c m) ∧ m ≤ c.length) ∧ Hid (Held (upAts ts (c.take m)) p mv fo se) ∧ Hid (Below w.heap.size w wr)) (fun _ _ _ v11 _ => (intOf v11 + 1).toNat)
  case atStart => exact ⟨0, ⟨#[]⟩, D, false, rfl, rfl, rfl, ⟨by rw [HCH.out.2], Nat.zero_le _⟩, HS.out, Below.refl _ _⟩
  case round =>
    clear HS E
    obtain ⟨m, mv, fo, se, rfl, rfl, rfl, HM, HH, HB⟩ := hrel
    obtain ⟨rfl, hm⟩ := HM.out
    clear HM
    by_cases hml : m < c.length
    · obtain ⟨x, t, hx, ek, hk2, hlt, hts, hup, hmem, hrow⟩ := chain_step HCH.out.1 hml
      rw [ek]
      have hxn : (x : Int) < (n : Int) := by have := HN.out; omega
      have HU := hid hup
      have HMEM := hid hmem
      have HK := hid (And.intro hlt (kAt_ge c (m + 1)))
      have HML := hid hml
      have HZT := hid (HZ.out _ hts)
      have HTK := hid hk2
      have HROW := hid (fun wx (hb : Below w.heap.size w wx) => hrow wx _ (HR.out.below hb))
      clear hup hmem hlt hml hts hk2 hrow ek hm hx
      obtain ⟨nA, hnA⟩ : ∃ nA, t.attrs.length = nA := ⟨_, rfl⟩
      have HNA := hid hnA
      have hnA1 : nA ≤ 1048576 := by rw [← hnA]; exact HZT.out.2.1
      rw [hnA] at HROW
      clear hnA
      go_wp2_with fail
      go_loopw [8, 9, 10, 12] (fun v8 v9 v10 v12 wr => ∃ (j : Nat) (mv : ByteArray) (fo se : Bool), v8 = .string mv ∧ v9 = .bool fo ∧ v10 = .bool se ∧ v12 = .int .i64 (j : Int) ∧ j ≤ nA ∧ Hid (Held (upAts ts (c.take m) ++ t.attrs.take j) p mv fo se) ∧ Hid (Below w.heap.size w wr)) (fun _ _ _ v12 _ => nA - (intOf v12).toNat)
      case atStart => exact ⟨0, mv, fo, se, rfl, rfl, rfl, rfl, Nat.zero_le _, by rw [List.take_zero, List.append_nil]; exact HH.out, HB.out⟩
      case round =>
        clear HB HH
        obtain ⟨j, mv, fo, se, rfl, rfl, rfl, rfl, hj, HH, HB⟩ := hrel
        obtain ⟨b', o', aa, ca, e', hb, c0, c2, hA⟩ := HROW.out _ HB.out
        obtain ⟨rfl, rfl⟩ : b = b' ∧ o = o' := by cases e'; exact ⟨rfl, rfl⟩
        clear e'
        by_cases hjl : j < nA
        · have hjt : j < t.attrs.length := by rw [HNA.out]; exact hjl
          have hjn : (j : Int) < (nA : Int) := by omega
          obtain ⟨b2, o2, rfl, hb2, e1, e2⟩ := hA j hjt
          have HTS := hid (take_snocN hjt)
          have HMJ := hid (HMEM.out _ (List.getElem_mem hjt))
          have HSZ := hid (HZT.out.2.2.1 _ (List.getElem_mem hjt))
          obtain ⟨y, hy⟩ : ∃ y, t.attrs[j] = y := ⟨_, rfl⟩
          rw [hy] at e1 e2 HTS HMJ HSZ
          have CR := hid (fun wx => c_spec_l9Right y wx HSZ.out.1 HSZ.out.2)
          have CD := hid (fun wx => c_spec_l9Declares y wx HSZ.out.1)
          clear hy c0 hA
          have HBX := hid (HB.out.alloc HB.out.size (.cells #[.string y.name, .string y.value] 57))
          have HBOX := hid (box_two wr (.string y.name) (.string y.value) 57)
          go_wp2_with fail
          refine (CR.out _).mono ?_
          rintro e w1 ⟨rfl, hb1⟩
          have HB1 := hid (bb HBX.out hb1)
          have d1 := (hb1.cell (p := ⟨wr.heap.size, 0, none⟩) HBOX.out.2.2).trans HBOX.out.1
          have d2 := (hb1.cell (p := ⟨wr.heap.size, 1, none⟩) HBOX.out.2.2).trans HBOX.out.2.1
          have HD2 := hid d2
          have HLT := hid (Nat.lt_of_lt_of_le HBOX.out.2.2 hb1.size)
          clear hb1 HBX HBOX CR e1 e2 c2 hb hb2
          cases hr : rightB y with
          | false =>
            have HF := hid (show V = none by rw [← HV.out]; exact mean_wrong HMJ.out hr p)
            clear hr CD
            go_wp2_with fail
            go_ret2
            exact ⟨by rw [HF.out]; rfl, HB1.out⟩
          | true =>
            have HRR := hid hr
            clear hr
            go_wp2_with fail
            refine (CD.out _).mono ?_
            rintro e w2 ⟨rfl, hb2⟩
            have HB2 := hid (bb HB1.out hb2)
            have d3 := (hb2.cell (p := ⟨wr.heap.size, 1, none⟩) HLT.out).trans HD2.out
            clear hb2 CD d1 d2 HD2 HLT HB1
            cases hd : declF y with
            | none =>
              have HN2 := hid (show Held (upAts ts (c.take m) ++ t.attrs.take (j + 1)) p mv fo se by
                rw [HTS.out, ← List.append_assoc]
                exact HH.out.next HRR.out (by unfold declB; rw [hd]; simp))
              clear hd
              go_wp2_with fail
              go_roundw
              case rel => exact ⟨j + 1, mv, fo, se, rfl, rfl, rfl, by go_num, by omega, HN2.out, HB2.out⟩
              case measure => simp [intOf]; omega
            | some q =>
              by_cases hq : q = p
              · have hqq : (q.toList == p.toList) = true := by rw [str_beq]; exact decide_eq_true hq
                have hdb : declB p y = true := by unfold declB; rw [hd, hq]; simp
                cases se with
                | false =>
                  have HN2 := hid (show Held (upAts ts (c.take m) ++ t.attrs.take (j + 1)) p y.value true true by
                    rw [HTS.out, ← List.append_assoc]
                    exact HH.out.hit HRR.out hdb)
                  clear hd hq hdb
                  go_wp2_with fail
                  go_roundw
                  case rel => exact ⟨j + 1, y.value, true, true, rfl, rfl, rfl, by go_num, by omega, HN2.out, HB2.out⟩
                  case measure => simp [intOf]; omega
                | true =>
                  have HN2 := hid (show Held (upAts ts (c.take m) ++ t.attrs.take (j + 1)) p mv fo true by
                    rw [HTS.out, ← List.append_assoc]
                    exact HH.out.next HRR.out (by rw [hdb]; rfl))
                  clear hd hq hdb
                  go_wp2_with fail
                  go_roundw
                  case rel => exact ⟨j + 1, mv, fo, true, rfl, rfl, rfl, by go_num, by omega, HN2.out, HB2.out⟩
                  case measure => simp [intOf]; omega
              · have hqq : (q.toList == p.toList) = false := by rw [str_beq]; exact decide_eq_false hq
                have HN2 := hid (show Held (upAts ts (c.take m) ++ t.attrs.take (j + 1)) p mv fo se by
                  rw [HTS.out, ← List.append_assoc]
                  exact HH.out.next HRR.out (by unfold declB; rw [hd]; simp [hq]))
                clear hd hq
                go_wp2_with fail
                go_roundw
                case rel => exact ⟨j + 1, mv, fo, se, rfl, rfl, rfl, by go_num, by omega, HN2.out, HB2.out⟩
                case measure => simp [intOf]; omega
        · have ha : t.attrs.take j = t.attrs := List.take_of_length_le (by have := HNA.out; omega)
          have hje : j = nA := by omega
          have HH2 := hid (show Held (upAts ts (c.take (m + 1))) p mv fo se by
            rw [HU.out]
            have h := HH.out
            rw [ha] at h
            exact h)
          clear ha
          subst hje
          rw [HTK.out] at c0
          have HKK := hid HK.out
          obtain ⟨K, hK⟩ : ∃ K, kAt c (m + 1) = K := ⟨_, rfl⟩
          have HKE := hid hK
          rw [hK] at c0 HKK
          clear hK hA HK
          go_wp2_with fail
          go_roundw
          case rel => exact ⟨m + 1, mv, fo, se, rfl, rfl, rfl, ⟨by rw [HKE.out], HML.out⟩, HH2.out, HB.out⟩
          case measure => have := HKK.out; simp [intOf]; omega
    · have hme : m = c.length := by omega
      subst hme
      rw [kAt_end]
      have hh := HH.out
      rw [List.take_of_length_le (Nat.le_refl _)] at hh
      obtain ⟨f1, f2⟩ := hh.fin
      rw [HV.out] at f1 f2
      have HF := hid (And.intro f1 f2)
      clear f1 f2 hh HH
      go_wp2_with fail
      go_ret2
      exact ⟨by rw [HF.out.1, HF.out.2]; rfl, HB.out⟩

end Go.Proofs.YtnbpcgeojmikoaaGreat
