/-  -/
import Derived.Test.YtlpbbkaelbafdaaGreatDoorM5
import Derived.Test.YtlpbbkaelbafdaaGreatDoorM4
import Derived.Deep.CutRange
set_option linter.unusedVariables false
set_option linter.unusedSimpArgs false
namespace Go.Proofs.YtlpbbkaelbafdaaGreatDoor

def ofB (signs : ByteArray) (most : Nat) (s : ByteArray) : Bool := s.data.toList.all (fun c => signs.data.toList.any fun d => decide (d = c)) && decide (s.size <= most)

def nsS : ByteArray := ⟨#[110, 115]⟩
def sgnS : ByteArray := ⟨#[97, 98, 99, 100, 101, 102, 103, 104, 105, 106, 107, 108, 109, 110, 111, 112, 113, 114, 115, 116, 117, 118, 119, 120, 121, 122, 48, 49, 50, 51, 52, 53, 54, 55, 56, 57, 47, 46]⟩

def preS (s : ByteArray) : ByteArray := ⟨(partP s.data.toList).toArray⟩
def locS (s : ByteArray) : ByteArray := ⟨(partL s.data.toList).toArray⟩

noncomputable def declF (x : At) : Option ByteArray := open Classical in if x.name = nsS then some ⟨#[]⟩ else if preS x.name = nsS then some (locS x.name) else none

noncomputable def rightB (x : At) : Bool := match declF x with
 | none => true
 | some p => ofB sgnS 20 x.value && (decide (p.size = 0) || !decide (x.value.size = 0))

noncomputable def declB (p : ByteArray) (x : At) : Bool := open Classical in decide (declF x = some p)

def upAts (ts : List Tk) (c : List Nat) : List At := c.flatMap fun j => match ts[j]? with | some t => t.attrs | none => []

noncomputable def meanL (l : List At) (p : ByteArray) : Option ByteArray :=
 if l.all rightB then (match l.find? (declB p) with | some x => some x.value | none => if p.size = 0 then some ⟨#[]⟩ else none) else none

noncomputable def meanF (ts : List Tk) (k : Nat) (p : ByteArray) : Option ByteArray := meanL (upAts ts (chainF ts (k + 1))) p

structure Held (l : List At) (p : ByteArray) (m : ByteArray) (found set : Bool) : Prop where
 right : l.all rightB = true
 isSet : set = (l.find? (declB p)).isSome
 isM : m = ((l.find? (declB p)).map (·.value)).getD ⟨#[]⟩
 isF : found = (decide (p.size = 0) || set)

theorem Held.start (p : ByteArray) : Held [] p ⟨#[]⟩ (decide (p.size = 0)) false := ⟨rfl, rfl, rfl, by rw [Bool.or_false]⟩

theorem Held.next {l : List At} {p m : ByteArray} {found set : Bool} (h : Held l p m found set) {x : At} (hr : rightB x = true) (hx : (declB p x && !set) = false) : Held (l ++ [x]) p m found set := by
 have e : (l ++ [x]).find? (declB p) = l.find? (declB p) := by
  rw [List.find?_append]
  cases hf : l.find? (declB p) with
  | some y => rfl
  | none =>
   have hs : set = false := by rw [h.isSet, hf]; rfl
   rw [hs] at hx
   simp at hx
   simp [hx]
 exact ⟨by rw [List.all_append, h.right]; simp [hr], by rw [e]; exact h.isSet, by rw [e]; exact h.isM, h.isF⟩

theorem Held.hit {l : List At} {p m : ByteArray} {found : Bool} (h : Held l p m found false) {x : At} (hr : rightB x = true) (hx : declB p x = true) : Held (l ++ [x]) p x.value true true := by
 have hn : l.find? (declB p) = none := by
  cases hf : l.find? (declB p) with
  | some y => have := h.isSet; rw [hf] at this; cases this
  | none => rfl
 have e : (l ++ [x]).find? (declB p) = some x := by
  rw [List.find?_append, hn]
  simp [hx]
 exact ⟨by rw [List.all_append, h.right]; simp [hr], by rw [e]; rfl, by rw [e]; rfl, by rw [Bool.or_true]⟩

theorem Held.fin {l : List At} {p m : ByteArray} {found set : Bool} (h : Held l p m found set) : (meanL l p).getD ⟨#[]⟩ = m /\ (meanL l p).isSome = found := by
 unfold meanL
 rw [if_pos h.right, h.isM, h.isF, h.isSet]
 cases hf : l.find? (declB p) with
 | some y => simp
 | none =>
  by_cases hp : p.size = 0
  ·simp [hp]
  ·simp [hp]

theorem mean_wrong {l : List At} {x : At} (hx : x ∈ l) (h : rightB x = false) (p : ByteArray) : meanL l p = none := by
 unfold meanL
 rw [if_neg]
 intro ha
 have := List.all_eq_true.1 ha x hx
 rw [h] at this
 cases this

theorem upAts_at {ts : List Tk} {c : List Nat} {m : Nat} (hm : m < c.length) (hc : c[m] < ts.length) : upAts ts (c.take (m + 1)) = upAts ts (c.take m) ++ ts[c[m]].attrs := by
 unfold upAts
 rw [List.take_succ_eq_append_getElem hm, List.flatMap_append]
 simp [List.getElem?_eq_getElem hc]

theorem upAts_mem {ts : List Tk} {c : List Nat} {m : Nat} (hm : m < c.length) (hc : c[m] < ts.length) {x : At} (hx : x ∈ ts[c[m]].attrs) : x ∈ upAts ts c := by
 unfold upAts
 exact List.mem_flatMap.2 ⟨c[m], List.getElem_mem hm, by rw [List.getElem?_eq_getElem hc]; exact hx⟩

end Go.Proofs.YtlpbbkaelbafdaaGreatDoor

namespace Go.Proofs.YtlpbbkaelbafdaaGreatDoor
open Go.RowKit

def inB (signs : ByteArray) (c : UInt8) : Bool := signs.data.toList.any fun d => decide (d = c)

theorem u8_beq (a b : UInt8) : ((a.toNat : Int) == (b.toNat : Int)) = decide (a = b) := by
 by_cases h : a = b
 ·subst h; simp
 ·rw [decide_eq_false h]
  have : ¬ a.toNat = b.toNat := fun e => h (UInt8.toNat_inj.1 e)
  simp
  omega

set_option maxHeartbeats 2000000 in
theorem c_spec_l1Of (signs : ByteArray) (most : Nat) (s : ByteArray) (w : World) (hs : s.size <= 1048576) (hg : signs.size <= 256) (hm : most <= 1000) :
  Calls Tryz.prog 102 #[.string s, .string signs, .int .i64 (most : Int)] w fun e w' => e = .returned (.bool (ofB signs most s)) /\ Below w.heap.size w w' := by
 obtain ⟨V, hV⟩ : ∃ V, ofB signs most s = V := ⟨_, rfl⟩
 have HV := hid hV
 rw [hV]
 clear hV
 go_enter Tryz.func102, Tryz.ntmps102
 go_wp2_with fail
 go_loopw [7] (fun k wr => ∃ i : Nat, k = .int .i64 (i : Int) /\ i <= s.size /\ Hid ((s.data.toList.take i).all (inB signs) = true) /\ Hid (Below w.heap.size w wr)) (fun k _ => s.size - (intOf k).toNat)
 case atStart => exact ⟨0, rfl, Nat.zero_le _, rfl, Below.refl _ _⟩
 case round =>
  obtain ⟨i, rfl, hi, HA, HB⟩ := hrel
  by_cases hlt : i < s.size
  ·have hin : (i : Int) < (s.size : Int) := by omega
   go_wp2_with fail
   go_loopw [8, 9] (fun v k wr => ∃ j : Nat, k = .int .i64 (j : Int) /\ j <= signs.size /\ v = .bool ((signs.data.toList.take j).any fun d => decide (d = s[i])) /\ Hid (Below w.heap.size w wr)) (fun _ k _ => signs.size - (intOf k).toNat)
   case atStart => exact ⟨0, rfl, Nat.zero_le _, rfl, HB.out⟩
   case round =>
    clear HB
    obtain ⟨j, rfl, hj, rfl, HB⟩ := hrel
    by_cases hjl : j < signs.size
    ·have hjn : (j : Int) < (signs.size : Int) := by omega
     have HE := hid (show (signs.data.toList.take (j + 1)).any (fun d => decide (d = s[i])) = ((signs.data.toList.take j).any (fun d => decide (d = s[i])) || decide (signs[j] = s[i])) by
      rw [take_snoc signs j hjl, List.any_append]
      simp)
     generalize (signs.data.toList.take j).any (fun d => decide (d = s[i])) = P at *
     have hq := u8_beq signs[j] s[i]
     generalize decide (signs[j] = s[i]) = D at *
     cases P
     ·go_wp2_with fail
      go_quiet (fail)
      go_wp2_with fail
      go_roundw
      case rel => exact ⟨j + 1, by go_num, by omega, by rw [HE.out]; rfl, below_drewN HB.out _⟩
      case measure => simp [intOf]; omega
     ·go_wp2_with fail
      go_quiet (fail)
      go_wp2_with fail
      go_roundw
      case rel => exact ⟨j + 1, by go_num, by omega, by rw [HE.out]; rfl, below_drewN HB.out _⟩
      case measure => simp [intOf]; omega
    ·have hje : j = signs.size := by omega
     subst hje
     rw [take_full signs _ (by omega)]
     have HI := hid (show signs.data.toList.any (fun d => decide (d = s[i])) = inB signs s[i] from rfl)
     rw [HI.out]
     cases hP : inB signs s[i]
     ·have HF := hid (show V = false by
       rw [<- HV.out]
       unfold ofB
       rw [Bool.and_eq_false_imp]
       intro h
       have h2 := List.all_eq_true.1 h s[i] (List.getElem_mem _)
       have h3 : inB signs s[i] = true := h2
       rw [hP] at h3
       cases h3)
      clear hP
      go_wp2_with fail
      go_ret
      exact ⟨by rw [HF.out]; rfl, HB.out⟩
     ·have HA2 := hid (show (s.data.toList.take (i + 1)).all (inB signs) = true by rw [take_snoc s i hlt, List.all_append, HA.out]; simp [hP])
      clear hP
      go_wp2_with fail
      go_roundw
      case rel => exact ⟨i + 1, by go_num, by omega, HA2.out, HB.out⟩
      case measure => simp [intOf]; omega
  ·have hie : i = s.size := by omega
   subst hie
   have hA := HA.out
   rw [take_full s _ (by omega)] at hA
   have HF := hid (show V = decide (s.size <= most) by
    rw [<- HV.out]
    unfold ofB
    have h : (s.data.toList.all fun c => signs.data.toList.any fun d => decide (d = c)) = true := hA
    rw [h, Bool.true_and])
   clear hA HA
   go_wp2_with fail
   go_ret
   exact ⟨by rw [HF.out]; rfl, HB.out⟩

theorem ns_beq (s : ByteArray) : (s.toList == [110, 115]) = decide (s = nsS) := by
 rw [<- str_beq]
 have e : nsS.toList = [110, 115] := by rw [ByteArray.toList_eq]; rfl
 rw [e]

theorem cPartsX (s : ByteArray) (w : World) (h0 : s.size <= 1048576) :
  Calls Tryz.prog 57 #[.string s] w fun e w' => e = .returned (.tuple #[.string (preS s), .string (locS s)]) /\ Below w.heap.size w w' := c_spec_Parts s w h0

set_option maxHeartbeats 2000000 in
theorem c_spec_l9Declares (x : At) (w : World) (hz : x.name.size <= 1048576) :
  Calls Tryz.prog 59 #[.agg #[.string x.name, .string x.value]] w fun e w' => e = .returned (.tuple #[.string ((declF x).getD ⟨#[]⟩), .bool (declF x).isSome]) /\ Below w.heap.size w w' := by
 have HB := hid ((Below.refl w.heap.size w).alloc (Nat.le_refl _) (.cells #[.string x.name, .string x.value] 40))
 by_cases h1 : x.name = nsS
 ·have HE := hid (show declF x = some ⟨#[]⟩ by unfold declF; rw [if_pos h1])
  rw [HE.out]
  have hd : (x.name.toList == [110, 115]) = true := by rw [ns_beq]; exact decide_eq_true h1
  clear h1
  generalize x.name = n at *
  generalize x.value = v at *
  go_enter Tryz.func59, Tryz.ntmps59
  go_wp2_with fail
  go_ret2
  exact ⟨rfl, HB.out⟩
 ·have hd : (x.name.toList == [110, 115]) = false := by rw [ns_beq]; exact decide_eq_false h1
  have C := hid (fun wx => cPartsX x.name wx hz)
  by_cases h2 : preS x.name = nsS
  ·have HE := hid (show declF x = some (locS x.name) by unfold declF; rw [if_neg h1, if_pos h2])
   rw [HE.out]
   have hd2 : ((preS x.name).toList == [110, 115]) = true := by rw [ns_beq]; exact decide_eq_true h2
   clear h1 h2 HE
   generalize preS x.name = P at *
   generalize locS x.name = L at *
   generalize x.name = n at *
   generalize x.value = v at *
   go_enter Tryz.func59, Tryz.ntmps59
   go_wp2_with fail
   refine (C.out _).mono ?_
   rintro e w1 ⟨rfl, hb1⟩
   have HB1 := hid (bb HB.out hb1)
   clear hb1 C
   go_wp2_with fail
   go_ret2
   exact ⟨rfl, HB1.out⟩
  ·have HE := hid (show declF x = none by unfold declF; rw [if_neg h1, if_neg h2])
   rw [HE.out]
   have hd2 : ((preS x.name).toList == [110, 115]) = false := by rw [ns_beq]; exact decide_eq_false h2
   clear h1 h2 HE
   generalize preS x.name = P at *
   generalize locS x.name = L at *
   generalize x.name = n at *
   generalize x.value = v at *
   go_enter Tryz.func59, Tryz.ntmps59
   go_wp2_with fail
   refine (C.out _).mono ?_
   rintro e w1 ⟨rfl, hb1⟩
   have HB1 := hid (bb HB.out hb1)
   clear hb1 C
   go_wp2_with fail
   go_ret2
   exact ⟨rfl, HB1.out⟩

theorem box_two (w : World) (x y : Value) (T : TypeId) : (w.alloc (.cells #[x, y] T)).cell? ⟨w.heap.size, 0, none⟩ = some x /\ (w.alloc (.cells #[x, y] T)).cell? ⟨w.heap.size, 1, none⟩ = some y /\ w.heap.size < (w.alloc (.cells #[x, y] T)).heap.size := by
 refine ⟨?_, ?_, by simp⟩
 ·rw [Lib.cell_of_heap (heap_alloc_new w _)]; rfl
 ·rw [Lib.cell_of_heap (heap_alloc_new w _)]; rfl

set_option maxHeartbeats 2000000 in
theorem c_spec_l9Right (x : At) (w : World) (hz : x.name.size <= 1048576) (hv : x.value.size <= 1048576) :
  Calls Tryz.prog 110 #[.agg #[.string x.name, .string x.value]] w fun e w' => e = .returned (.bool (rightB x)) /\ Below w.heap.size w w' := by
 have HB := hid ((Below.refl w.heap.size w).alloc (Nat.le_refl _) (.cells #[.string x.name, .string x.value] 40))
 have HX := hid (box_two w (.string x.name) (.string x.value) 40)
 have C := hid (fun wx => c_spec_l9Declares x wx hz)
 have CO := hid (fun wx => c_spec_l1Of sgnS 20 x.value wx hv (by decide) (by omega))
 have EV := empty_is x.value
 cases hd : declF x with
 | none =>
  have HE := hid (show rightB x = true by unfold rightB; rw [hd])
  rw [HE.out]
  rw [hd] at C
  clear hd HE CO EV
  generalize x.name = n at *
  generalize x.value = v at *
  go_enter Tryz.func110, Tryz.ntmps110
  go_wp2_with fail
  refine (C.out _).mono ?_
  rintro e w1 ⟨rfl, hb1⟩
  have HB1 := hid (bb HB.out hb1)
  clear hb1 C
  go_wp2_with fail
  go_ret
  exact ⟨rfl, HB1.out⟩
 | some p =>
  have HE := hid (show rightB x = (ofB sgnS 20 x.value && (decide (p.size = 0) || !decide (x.value.size = 0))) by unfold rightB; rw [hd])
  rw [HE.out]
  rw [hd] at C
  have EP := empty_is p
  clear hd HE
  generalize ofB sgnS 20 x.value = B at *
  generalize decide (p.size = 0) = D at *
  generalize decide (x.value.size = 0) = F at *
  generalize x.name = n at *
  generalize x.value = v at *
  unfold sgnS at CO
  go_enter Tryz.func110, Tryz.ntmps110
  go_wp2_with fail
  refine (C.out _).mono ?_
  rintro e w1 ⟨rfl, hb1⟩
  have HB1 := hid (bb HB.out hb1)
  have d2 := hid ((hb1.cell (p := ⟨w.heap.size, 1, none⟩) HX.out.2.2).trans HX.out.2.1)
  have d3 := hid (Nat.lt_of_lt_of_le HX.out.2.2 hb1.size)
  have d2' := d2.out
  clear hb1 C HB HX
  go_wp2_with fail
  refine (CO.out _).mono ?_
  rintro e w2 ⟨rfl, hb2⟩
  have HB2 := hid (bb HB1.out hb2)
  have e2 := (hb2.cell (p := ⟨w.heap.size, 1, none⟩) d3.out).trans d2.out
  clear hb2 CO HB1 d2' d2 d3
  cases B
  ·go_wp2_with fail
   go_ret
   exact ⟨rfl, HB2.out⟩
  ·cases D
   ·go_wp2_with fail
    go_ret
    exact ⟨by cases F <;> rfl, HB2.out⟩
   ·go_wp2_with fail
    go_ret
    exact ⟨rfl, HB2.out⟩

end Go.Proofs.YtlpbbkaelbafdaaGreatDoor

namespace Go.Proofs.YtlpbbkaelbafdaaGreatDoor
open Go.RowKit

theorem linked_from {ts : List Tk} : ∀ {c : List Nat}, Linked ts c -> ∀ m (h : m < c.length), (parI ts 0 = -1 -> parI ts c[m] = (if h' : m + 1 < c.length then (c[m + 1] : Int) else -1)) /\ (c[m] = 0 ↔ m + 1 = c.length)
 | [], h, m, hm => absurd hm (by simp)
 | [x], h, m, hm => by
  have h0 : x = 0 := h
  subst h0
  have : m = 0 := by simpa using hm
  subst this
  exact ⟨fun e => by simpa using e, by simp⟩
 | x :: y :: r, h, 0, hm => by
  refine ⟨fun e => ?_, ?_⟩
  ·simp [h.1]
  ·have := h.2.1
   constructor
   ·intro e
    have e : x = 0 := e
    omega
   ·intro e
    simp at e
 | x :: y :: r, h, m + 1, hm => by
  have hm' : m < (y :: r).length := by simpa using hm
  obtain ⟨h1, h2⟩ := linked_from h.tail m hm'
  refine ⟨fun e => ?_, ?_⟩
  ·have := h1 e
   simp only [List.getElem_cons_succ, List.length_cons] at this ⊢
   rw [this]
   by_cases q : m + 1 < r.length + 1
   ·rw [dif_pos q, dif_pos (by omega)]
   ·rw [dif_neg q, dif_neg (by omega)]
  ·simp only [List.getElem_cons_succ, List.length_cons] at h2 ⊢
   omega

theorem Linked.len {ts : List Tk} : ∀ {c : List Nat} {x : Nat}, Linked ts (x :: c) -> (x :: c).length <= x + 1
 | [], x, h => by simp
 | y :: r, x, h => by
  have h1 := Linked.len (ts := ts) h.tail
  have := h.2.1
  simp only [List.length_cons] at h1 ⊢
  omega

theorem linked_lt {ts : List Tk} : ∀ {c : List Nat}, Linked ts c -> ∀ m (h : m + 1 < c.length), c[m + 1] < c[m]
 | [], h, m, hm => absurd hm (by simp)
 | [x], h, m, hm => absurd hm (by simp)
 | x :: y :: r, h, 0, hm => h.2.1
 | x :: y :: r, h, m + 1, hm => linked_lt h.tail m (by simpa using hm)

def kAt (c : List Nat) (m : Nat) : Int := match c[m]? with | some x => (x : Int) | none => -1

theorem kAt_lt {c : List Nat} {m : Nat} (h : m < c.length) : kAt c m = (c[m] : Int) := by unfold kAt; rw [List.getElem?_eq_getElem h]

theorem kAt_end {c : List Nat} : kAt c c.length = -1 := by unfold kAt; rw [List.getElem?_eq_none (Nat.le_refl _)]

theorem TkRow.kindAt {w : World} {a : Option Addr} {ts : List Tk} (h : TkRow w a ts) (j : Nat) (hj : j < ts.length) : ∃ b o, a = some ⟨b, o, none⟩ /\ w.cell? ⟨b, o + j * 4, none⟩ = some (.int .i64 (parI ts j)) /\ w.cell? ⟨b, o + j * 4 + 1, none⟩ = some (.string ts[j].name) := by
 obtain ⟨b, o, aa, cap, ha, hlt, c0, c1, _⟩ := h j hj
 exact ⟨b, o, ha, by rw [parI_at hj]; exact c0, c1⟩

set_option maxRecDepth 8000 in
set_option maxHeartbeats 4000000 in
theorem cDepthS (a : Option Addr) (cap : Nat) (ts : List Tk) (i : Nat) (w : World) (hR : TkRow w a ts) (hi : i < ts.length) (hn : ts.length <= 1048576) (hz : TksSz 1048576 ts) (h0 : parI ts 0 = -1) (hup : ∀ j, j < i -> UpOk ts j) :
  Calls Tryz.prog 106 #[.slice a ts.length cap, .int .i64 (i : Int)] w fun e w' => e = .returned (.int .i64 (depI ts i)) /\ w' = w := by
 have HR := hid hR
 have HZ := hid hz
 obtain ⟨V, hV⟩ : ∃ V, depI ts i = V := ⟨_, rfl⟩
 have HV := hid hV
 rw [hV]
 clear hR hV hz
 obtain ⟨n, hnn⟩ : ∃ n, ts.length = n := ⟨_, rfl⟩
 have HN := hid hnn
 rw [hnn] at hn hi ⊢
 clear hnn
 by_cases hi0 : i = 0
 ·subst hi0
  have HW := hid (show V = 1 by rw [<- HV.out, depI_t (.inl rfl)]; rfl)
  go_enter Tryz.func106, Tryz.ntmps106
  go_wp2
  go_ret
  exact ⟨by rw [HW.out]; rfl, rfl⟩
 ·have HL := hid (show Linked ts (chainF ts i) /\ (∀ p ∈ chainF ts i, p < i) /\ ∃ r, chainF ts i = (i - 1) :: r by
   obtain ⟨i', rfl⟩ : ∃ i', i = i' + 1 := ⟨i - 1, by omega⟩
   exact ⟨(linked_all i' hup).1, (linked_all i' hup).2, _, rfl⟩)
  have HU := hid hup
  have H0 := hid h0
  clear hup h0
  have d0 : ((i : Int) == 0) = false := by simp; omega
  have his : i < ts.length := by rw [HN.out]; exact hi
  obtain ⟨b, o, rfl, c0, c1⟩ := HR.out.kindAt i his
  have hin : (i : Int) < (n : Int) := by omega
  obtain ⟨p, hp⟩ : ∃ p, parI ts i = p := ⟨_, rfl⟩
  have HP := hid hp
  rw [hp] at c0
  clear hp
  by_cases hp0 : p < 0
  ·have HW := hid (show V = 0 by
    rw [<- HV.out, depI_f]
    rintro (h | ⟨q, _, hq, _⟩)
    ·exact hi0 h
    ·rw [HP.out] at hq; omega)
   go_enter Tryz.func106, Tryz.ntmps106
   go_wp2
   go_ret
   exact ⟨by rw [HW.out]; rfl, rfl⟩
  ·by_cases hpi : (i : Int) <= p
   ·have HW := hid (show V = 0 by
     rw [<- HV.out, depI_f]
     rintro (h | ⟨q, hm, hq, _⟩)
     ·exact hi0 h
     ·have := HL.out.2.1 q hm
      rw [HP.out] at hq
      omega)
    go_enter Tryz.func106, Tryz.ntmps106
    go_wp2
    go_ret
    exact ⟨by rw [HW.out]; rfl, rfl⟩
   ·obtain ⟨q, rfl⟩ : ∃ q : Nat, p = q := ⟨p.toNat, by omega⟩
    have hqi : q < i := by omega
    have hqs : q < ts.length := by omega
    have hqn : (q : Int) < (n : Int) := by omega
    obtain ⟨b', o', e', c2, c3⟩ := HR.out.kindAt q hqs
    obtain ⟨rfl, rfl⟩ : b = b' /\ o = o' := by cases e'; exact ⟨rfl, rfl⟩
    clear e' c2
    have E := empty_is ts[q].name
    have zq := (HZ.out _ (List.getElem_mem hqs)).1
    by_cases hne : ts[q].name.size = 0
    ·have HW := hid (show V = 0 by
      rw [<- HV.out, depI_f]
      rintro (h | ⟨q', hm, hq, ⟨_, hel⟩⟩)
      ·exact hi0 h
      ·rw [HP.out] at hq
       have : q' = q := by omega
       subst this
       exact hel hne)
     rw [decide_eq_true hne] at E
     generalize ts[q].name = nm at *
     go_enter Tryz.func106, Tryz.ntmps106
     go_wp2
     go_ret
     exact ⟨by rw [HW.out]; rfl, rfl⟩
    ·have HE := hid (show elN ts q from ⟨hqs, hne⟩)
     rw [decide_eq_false hne] at E
     generalize ts[q].name = nm at *
     clear hne
     obtain ⟨c, hc⟩ : ∃ c, chainF ts i = c := ⟨_, rfl⟩
     have HC := hid hc
     rw [hc] at HL
     clear hc
     go_enter Tryz.func106, Tryz.ntmps106
     go_wp2
     go_loop [6] (fun k => ∃ m : Nat, Hid (k = .int .i64 (kAt c m) /\ m <= c.length /\ ∀ j, j < m -> ∀ h : j < c.length, ¬ c[j] = q)) (fun k => (intOf k + 1).toNat)
     case atStart =>
      refine ⟨0, ?_, Nat.zero_le _, fun j h => by omega⟩
      obtain ⟨r, hr⟩ := HL.out.2.2
      rw [hr]
      show _ = Value.int .i64 (((i - 1 : Nat)) : Int)
      congr 1
      first | omega | (simp; omega)
     case round =>
      clear c0 c1 c3 E zq
      obtain ⟨m, HM⟩ := hrel
      obtain ⟨rfl, hm, hno⟩ := HM.out
      have HNO := hid hno
      clear hno HM
      by_cases hml : m < c.length
      ·obtain ⟨x, hx⟩ : ∃ x, c[m] = x := ⟨_, rfl⟩
       have hxi : x < i := by rw [<- hx]; exact HL.out.2.1 _ (List.getElem_mem hml)
       have hxs : x < ts.length := by omega
       have ek : kAt c m = (x : Int) := by rw [<- hx]; exact kAt_lt hml
       rw [ek]
       by_cases hxq : x = q
       ·subst hxq
        have HUP := hid (show UpOk ts i from .inr ⟨x, by rw [HC.out, <- hx]; exact List.getElem_mem hml, HP.out.symm, HE.out⟩)
        have HD := hid (linked_all i (fun j hj => by
         rcases Nat.lt_or_eq_of_le (Nat.le_of_lt_succ hj) with h' | rfl
         ·exact HU.out j h'
         ·exact HUP.out))
        have HW := hid (show V = ((chainF ts (i + 1)).length : Int) by rw [<- HV.out, depI_t HUP.out])
        have hd1 : ((chainF ts (i + 1)).length : Int) <= 1048577 := by
         obtain ⟨r, hr⟩ := chain_head ts i
         have h1 := HD.out.1
         rw [hr] at h1 ⊢
         have := h1.len
         omega
        obtain ⟨d, hd⟩ : ∃ d, chainF ts (i + 1) = d := ⟨_, rfl⟩
        have HDD := hid hd
        rw [hd] at HD HW hd1
        clear hd hx ek HNO hm hml
        go_wp2
        go_loop [7, 8] (fun v k => ∃ m : Nat, Hid (k = .int .i64 (kAt d m) /\ m < d.length) /\ v = .int .i64 ((m : Int) + 1)) (fun _ k => (intOf k + 1).toNat)
        case atStart =>
         refine ⟨0, ⟨?_, ?_⟩, rfl⟩
         ·rw [<- HDD.out]; rfl
         ·rw [<- HDD.out]; exact Nat.succ_pos _
        case round =>
         obtain ⟨m, HM, rfl⟩ := hrel
         obtain ⟨rfl, hml⟩ := HM.out
         clear HM
         obtain ⟨y, hy⟩ : ∃ y, d[m] = y := ⟨_, rfl⟩
         have hyi : y < i + 1 := by rw [<- hy]; exact HD.out.2 _ (List.getElem_mem hml)
         have hys : y < ts.length := by omega
         have ek : kAt d m = (y : Int) := by rw [<- hy]; exact kAt_lt hml
         rw [ek]
         obtain ⟨l1, l2⟩ := linked_from HD.out.1 m hml
         have l1 := l1 H0.out
         rw [hy] at l1 l2
         obtain ⟨b', o', e', c2, c3⟩ := HR.out.kindAt y hys
         obtain ⟨rfl, rfl⟩ : b = b' /\ o = o' := by cases e'; exact ⟨rfl, rfl⟩
         have hyn : (y : Int) < (n : Int) := by omega
         by_cases hy0 : y = 0
         ·have HE2 := hid (show ((m : Int) + 1) = V by rw [HW.out]; have := l2.1 hy0; omega)
          subst hy0
          clear c2 c3 l1 l2 e' ek hy
          go_wp2
          go_ret
          exact ⟨by rw [<- HE2.out]; rfl, rfl⟩
         ·have hnx : m + 1 < d.length := by
           rcases Nat.lt_or_ge (m + 1) d.length with h' | h'
           ·exact h'
           ·exact absurd (l2.2 (by omega)) hy0
          rw [dif_pos hnx, <- kAt_lt hnx] at l1
          have hless := hid (show kAt d (m + 1) < (y : Int) by rw [kAt_lt hnx, <- hy]; have := linked_lt HD.out.1 m hnx; omega)
          rw [l1] at c2
          have hyp : (0 : Int) < (y : Int) := by omega
          have HNX := hid hnx
          obtain ⟨K, hK⟩ : ∃ K, kAt d (m + 1) = K := ⟨_, rfl⟩
          have HK := hid hK
          rw [hK] at c2 hless
          clear hK c3 l1 l2 e' ek hy hnx
          go_wp2
          go_round
          case rel => exact ⟨m + 1, ⟨by rw [HK.out], HNX.out⟩, by go_num⟩
          case measure => have := hless.out; simp [intOf]; omega
       ·have l1 := (linked_from HL.out.1 m hml).1 H0.out
        rw [hx] at l1
        have e2 : parI ts x = kAt c (m + 1) := by
         rw [l1]
         by_cases h' : m + 1 < c.length
         ·rw [dif_pos h', kAt_lt h']
         ·rw [dif_neg h']
          have : m + 1 = c.length := by omega
          rw [this, kAt_end]
        have hless := hid (show kAt c (m + 1) < (x : Int) by
         by_cases h' : m + 1 < c.length
         ·rw [kAt_lt h', <- hx]
          have := linked_lt HL.out.1 m h'
          omega
         ·have : m + 1 = c.length := by omega
          rw [this, kAt_end]
          omega)
        have hge := hid (show -1 <= kAt c (m + 1) by unfold kAt; split <;> omega)
        have HN2 := hid (show ∀ j, j < m + 1 -> ∀ h : j < c.length, ¬ c[j] = q from fun j hj h => by
         rcases Nat.lt_or_eq_of_le (Nat.le_of_lt_succ hj) with h' | rfl
         ·exact HNO.out j h' h
         ·rw [hx]; exact hxq)
        obtain ⟨b', o', e', c2, c3⟩ := HR.out.kindAt x hxs
        obtain ⟨rfl, rfl⟩ : b = b' /\ o = o' := by cases e'; exact ⟨rfl, rfl⟩
        have hxn : (x : Int) < (n : Int) := by omega
        have dq : ((x : Int) == (q : Int)) = false := by simp; omega
        rw [e2] at c2
        obtain ⟨K, hK⟩ : ∃ K, kAt c (m + 1) = K := ⟨_, rfl⟩
        have HK := hid hK
        rw [hK] at c2 hless hge
        have HML := hid hml
        clear hK c3 l1 e2 e' ek hx hml
        go_wp2
        go_round
        case rel => exact ⟨m + 1, by rw [HK.out], HML.out, HN2.out⟩
        case measure => have := hless.out; have := hge.out; simp [intOf]; omega
      ·have hme : m = c.length := by omega
       subst hme
       rw [kAt_end]
       have HW := hid (show V = 0 by
        rw [<- HV.out, depI_f]
        rintro (h | ⟨q', hmem, hq, _⟩)
        ·exact hi0 h
        ·rw [HP.out] at hq
         have : q' = q := by omega
         subst this
         rw [HC.out] at hmem
         obtain ⟨j, hj, e⟩ := List.getElem_of_mem hmem
         exact HNO.out j hj hj e)
       have dq : ((-1 : Int) == (q : Int)) = false := by simp <;> omega
       go_wp2
       go_ret
       exact ⟨by rw [HW.out]; rfl, rfl⟩

end Go.Proofs.YtlpbbkaelbafdaaGreatDoor

namespace Go.Proofs.YtlpbbkaelbafdaaGreatDoor
open Go.RowKit

theorem nodeB_el {t : Tk} (h : ¬ t.name.size = 0) : nodeB t = (nameL t.name.data.toList && (attrsB t.attrs && decide (t.text.size = 0))) := by unfold nodeB; exact if_neg h

theorem nodeB_tx {t : Tk} (h : t.name.size = 0) : nodeB t = (decide (t.attrs.length = 0) && textB t.text) := by unfold nodeB; exact if_pos h

set_option maxRecDepth 8000 in
set_option maxHeartbeats 8000000 in
theorem cTreeOkS (a : Option Addr) (cap : Nat) (ts : List Tk) (w : World) (hR : TkRow w a ts) (hn : ts.length <= 1048576) (hz : TksSz 1048576 ts) :
  Calls Tryz.prog 52 #[.slice a ts.length cap] w fun e w' => e = .returned (.bool (treeB ts)) /\ Below w.heap.size w w' := by
 obtain ⟨V, hV⟩ : ∃ V, treeB ts = V := ⟨_, rfl⟩
 have HV := hid hV
 rw [hV]
 have HF : Hid (¬ TreeP ts -> V = false) := fun h => by rw [<- HV.out]; exact treeB_f h
 have HT : Hid (TreeP ts -> V = true) := fun h => by rw [<- HV.out]; exact treeB_t h
 clear hV HV
 have HR := hid hR
 have HZ := hid hz
 have CI := fun w => c_spec_In7 (ts.length : Int) 1 50 w
 clear hR hz
 obtain ⟨n, hnn⟩ : ∃ n, ts.length = n := ⟨_, rfl⟩
 have HN := hid hnn
 rw [hnn] at hn CI ⊢
 clear hnn
 by_cases h50 : 1 <= n /\ n <= 50
 case neg =>
  have hd : decide ((1 : Int) <= (n : Int) /\ (n : Int) <= 50) = false := decide_eq_false (by omega)
  rw [hd] at CI
  have HW := hid (HF.out (fun h => h50 (by have h1 := h.1; have h2 := h.2.1; rw [HN.out] at h1 h2; exact ⟨h1, h2⟩)))
  go_enter Tryz.func52, Tryz.ntmps52
  go_wp2_with fail
  refine (CI _).mono ?_
  rintro e w1 ⟨rfl, rfl⟩
  go_wp2_with fail
  go_ret
  exact ⟨by rw [HW.out]; rfl, Below.refl _ _⟩
 have hd : decide ((1 : Int) <= (n : Int) /\ (n : Int) <= 50) = true := decide_eq_true (by omega)
 rw [hd] at CI
 have h0s : 0 < ts.length := by rw [HN.out]; omega
 have hin0 : (0 : Int) < (n : Int) := by omega
 obtain ⟨b, o, rfl, c0, c1⟩ := HR.out.kindAt 0 h0s
 simp only [Nat.zero_mul, Nat.add_zero] at c0 c1
 have E := empty_is ts[0].name
 have z0 := (HZ.out _ (List.getElem_mem h0s)).1
 by_cases hp : parI ts 0 = -1
 case neg =>
  have HW := hid (HF.out (fun h => hp h.2.2.1))
  have hd2 : (parI ts 0 == -1) = false := by simpa using hp
  generalize parI ts 0 = P at *
  generalize ts[0].name = N at *
  go_enter Tryz.func52, Tryz.ntmps52
  go_wp2_with fail
  refine (CI _).mono ?_
  rintro e w1 ⟨rfl, rfl⟩
  go_wp2_with fail
  go_ret
  exact ⟨by rw [HW.out]; rfl, Below.refl _ _⟩
 have HP := hid hp
 rw [hp] at c0
 by_cases hel : ts[0].name.size = 0
 case pos =>
  have HW := hid (HF.out (fun h => by obtain ⟨_, h'⟩ := h.2.2.2.1; exact h' hel))
  rw [decide_eq_true hel] at E
  generalize ts[0].name = N at *
  clear hp
  go_enter Tryz.func52, Tryz.ntmps52
  go_wp2_with fail
  refine (CI _).mono ?_
  rintro e w1 ⟨rfl, rfl⟩
  go_wp2_with fail
  go_ret
  exact ⟨by rw [HW.out]; rfl, Below.refl _ _⟩
 have HEL := hid (show elN ts 0 from ⟨h0s, hel⟩)
 rw [decide_eq_false hel] at E
 generalize ts[0].name = N at *
 clear hp hel
 go_enter Tryz.func52, Tryz.ntmps52
 go_wp2_with fail
 refine (CI _).mono ?_
 rintro e w1 ⟨rfl, rfl⟩
 go_wp2_with fail
 clear c0 c1 E z0 CI
 go_loopw [3] (fun k wr => ∃ i : Nat, k = .int .i64 (i : Int) /\ i <= n /\ Hid (∀ j, j < i -> NodeOk ts j) /\ Hid (Below w1.heap.size w1 wr)) (fun k _ => n - (intOf k).toNat)
 case atStart => exact ⟨0, rfl, Nat.zero_le _, fun j h => by omega, Below.refl _ _⟩
 case round =>
  obtain ⟨i, rfl, hi, HA, HB⟩ := hrel
  by_cases hlt : i < n
  case neg =>
   have hie : i = n := by omega
   subst hie
   have HW := hid (HT.out ⟨by rw [HN.out]; exact h50.1, by rw [HN.out]; exact h50.2, HP.out, HEL.out, fun j hj => HA.out j (by rw [<- HN.out]; exact hj)⟩)
   go_wp2_with fail
   go_ret
   exact ⟨by rw [HW.out]; rfl, HB.out⟩
  have his : i < ts.length := by rw [HN.out]; exact hlt
  have hin : (i : Int) < (n : Int) := by omega
  obtain ⟨b', o', aa, ca, e', hb, c0, c1, c2, c3, cr⟩ := HR.out.below HB.out i his
  obtain ⟨rfl, rfl⟩ : b = b' /\ o = o' := by cases e'; exact ⟨rfl, rfl⟩
  clear e'
  obtain ⟨t, ht⟩ : ∃ t, ts[i] = t := ⟨_, rfl⟩
  have HTT := hid ht
  have HZt := HZ.out _ (List.getElem_mem his)
  rw [ht] at c0 c1 c2 c3 cr HZt
  obtain ⟨tk, tn, tl, tx⟩ := t
  obtain ⟨z1, z2, z3, z4⟩ := HZt
  simp only at c0 c1 c2 c3 cr z1 z2 z3 z4
  have HFN : Hid (nodeB ⟨tk, tn, tl, tx⟩ = false -> V = false) := fun h => HF.out (fun hh => by
   obtain ⟨⟨_, h1⟩, _⟩ := hh.2.2.2.2 i his
   rw [HTT.out, h] at h1
   cases h1)
  have M0 := hid (heap_alloc_new wr (.cells #[.int .i64 tk, .string tn, .slice aa tl.length ca, .string tx] 42))
  have HB0 := hid (HB.out.alloc HB.out.size (.cells #[.int .i64 tk, .string tn, .slice aa tl.length ca, .string tx] 42))
  have CR := hid (cr.below ((Below.refl wr.heap.size wr).alloc (Nat.le_refl _) (.cells #[.int .i64 tk, .string tn, .slice aa tl.length ca, .string tx] 42)))
  have CN := hid (fun w => c_spec_NameOk tn w z1)
  have CA := hid (fun w (h : AtRow w aa tl) => cL7Attrs aa ca tl w h z3 z2)
  have CX := hid (fun w => cL7Text tx w z4)
  have HE1 := hid (@nodeB_el ⟨tk, tn, tl, tx⟩)
  have HE2 := hid (@nodeB_tx ⟨tk, tn, tl, tx⟩)
  simp only at HE1 HE2
  have E1 := empty_is tn
  have E2 := empty_is tx
  obtain ⟨B, hB⟩ : ∃ B, nodeB ⟨tk, tn, tl, tx⟩ = B := ⟨_, rfl⟩
  rw [hB] at HE1 HE2 HFN
  have HBB := hid hB
  obtain ⟨m, hm⟩ : ∃ m, tl.length = m := ⟨_, rfl⟩
  rw [hm] at c2 M0 HB0 CR CA z2 HE2
  clear ht hB cr z3 hm
  go_upto_region 7 with fail
  go_cut [70] from 24 to 106 (fun v wv => v = .bool (!B) /\ Hid (wv.heap[wr.heap.size]? = some (.cells #[.int .i64 tk, .string tn, .slice aa m ca, .string tx] 42 (0, 0)) /\ Below w1.heap.size w1 wv))
  case first =>
   by_cases e1 : tn.size = 0
   ·rw [decide_eq_true e1] at E1
    have hB := HE2.out e1
    by_cases hm0 : m = 0
    ·rw [decide_eq_true hm0, Bool.true_and] at hB
     subst hm0
     rw [<- hB] at CX
     clear hB
     go_wp2_with fail
     refine (CX.out _).mono ?_
     rintro e w2 ⟨rfl, rfl⟩
     cases B
     ·go_wp2_with fail
      go_meet
      exact ⟨rfl, M0.out, HB0.out⟩
     ·go_wp2_with fail
      go_meet
      exact ⟨rfl, M0.out, HB0.out⟩
    ·rw [decide_eq_false hm0, Bool.false_and] at hB
     have hd1 : decide ((0 : Int) < (m : Int)) = true := by simp; omega
     subst hB
     go_wp2_with fail
     go_meet
     exact ⟨rfl, M0.out, HB0.out⟩
   ·rw [decide_eq_false e1] at E1
    have hB := HE1.out e1
    cases q1 : nameL tn.data.toList
    ·rw [q1, Bool.false_and] at hB
     rw [q1] at CN
     subst hB
     go_wp2_with fail
     refine (CN.out _).mono ?_
     rintro e w2 ⟨rfl, hb2⟩
     have M2 := hid (blk_below M0.out hb2)
     have HB2 := hid (bb HB0.out hb2)
     obtain ⟨⟨x0, x1, x2, x3⟩, _⟩ := box4 M2.out
     go_wp2_with fail
     go_meet
     exact ⟨rfl, M2.out, HB2.out⟩
    ·rw [q1, Bool.true_and] at hB
     rw [q1] at CN
     cases q2 : attrsB tl
     ·rw [q2, Bool.false_and] at hB
      rw [q2] at CA
      subst hB
      go_wp2_with fail
      refine (CN.out _).mono ?_
      rintro e w2 ⟨rfl, hb2⟩
      have M2 := hid (blk_below M0.out hb2)
      have HB2 := hid (bb HB0.out hb2)
      have CR2 := hid (CR.out.below hb2)
      obtain ⟨⟨x0, x1, x2, x3⟩, _⟩ := box4 M2.out
      clear hb2
      go_wp2_with fail
      refine (CA.out _ CR2.out).mono ?_
      rintro e w3 ⟨rfl, hb3⟩
      have M3 := hid (blk_below M2.out hb3)
      have HB3 := hid (bb HB2.out hb3)
      clear x0 x1 x2 x3 hb3
      obtain ⟨⟨x0, x1, x2, x3⟩, _⟩ := box4 M3.out
      go_wp2_with fail
      go_meet
      exact ⟨rfl, M3.out, HB3.out⟩
     ·rw [q2, Bool.true_and] at hB
      rw [q2] at CA
      rw [<- hB] at E2
      clear hB
      go_wp2_with fail
      refine (CN.out _).mono ?_
      rintro e w2 ⟨rfl, hb2⟩
      have M2 := hid (blk_below M0.out hb2)
      have HB2 := hid (bb HB0.out hb2)
      have CR2 := hid (CR.out.below hb2)
      obtain ⟨⟨x0, x1, x2, x3⟩, _⟩ := box4 M2.out
      clear hb2
      go_wp2_with fail
      refine (CA.out _ CR2.out).mono ?_
      rintro e w3 ⟨rfl, hb3⟩
      have M3 := hid (blk_below M2.out hb3)
      have HB3 := hid (bb HB2.out hb3)
      clear x0 x1 x2 x3 hb3
      obtain ⟨⟨x0, x1, x2, x3⟩, _⟩ := box4 M3.out
      cases B
      ·go_wp2_with fail
       go_meet
       exact ⟨rfl, M3.out, HB3.out⟩
      ·go_wp2_with fail
       go_meet
       exact ⟨rfl, M3.out, HB3.out⟩
  case rest =>
   obtain ⟨rfl, HC⟩ := hcut
   obtain ⟨hM, hBw⟩ := HC.out
   have MW := hid hM
   have BWC := hid hBw
   clear hM hBw HC CX CA CN HE1 HE2 CR M0 HB0 c0 c1 c2 c3
   cases B
   ·have HW := hid (HFN.out rfl)
    go_wp2_with fail
    go_ret
    exact ⟨by rw [HW.out]; rfl, BWC.out⟩
   ·clear HFN
    have CD := hid (fun (wx : World) (hx : TkRow wx (some ⟨b, o, none⟩) ts) => cDepthS (some ⟨b, o, none⟩) cap ts i wx hx his (by rw [HN.out]; exact hn) HZ.out HP.out (fun j hj => (HA.out j hj).2.1))
    rw [HN.out] at CD
    have HRW := hid (HR.out.below BWC.out)
    by_cases hu : UpOk ts i
    case neg =>
     have HW := hid (HF.out (fun h => hu (h.2.2.2.2 i his).2.1))
     rw [depI_f hu] at CD
     go_wp2_with fail
     refine (CD.out _ HRW.out).mono ?_
     rintro e w2 ⟨rfl, rfl⟩
     go_wp2_with fail
     go_ret
     exact ⟨by rw [HW.out]; rfl, BWC.out⟩
    rw [depI_t hu] at CD
    obtain ⟨D, hD⟩ : ∃ D, (chainF ts (i + 1)).length = D := ⟨_, rfl⟩
    have HD := hid hD
    have hD1 : 1 <= D := by rw [<- hD]; exact Nat.succ_pos _
    rw [hD] at CD
    clear hD
    have hd1 : decide ((D : Int) < 1) = false := by simp; omega
    by_cases h9 : D <= 9
    case neg =>
     have HW := hid (HF.out (fun h => h9 (by rw [<- HD.out]; exact (h.2.2.2.2 i his).2.2.1)))
     have hd2 : decide ((9 : Int) < (D : Int)) = true := by simp; omega
     go_wp2_with fail
     refine (CD.out _ HRW.out).mono ?_
     rintro e w2 ⟨rfl, rfl⟩
     go_wp2_with fail
     go_ret
     exact ⟨by rw [HW.out]; rfl, BWC.out⟩
    have hd2 : decide ((9 : Int) < (D : Int)) = false := by simp; omega
    have HK : Hid (¬ TwinAt ts i -> ∀ j, j < i + 1 -> NodeOk ts j) := fun h j hj => by
     rcases Nat.lt_or_eq_of_le (Nat.le_of_lt_succ hj) with h' | rfl
     ·exact HA.out j h'
     ·exact ⟨⟨his, by rw [HTT.out]; exact HBB.out⟩, hu, by rw [HD.out]; exact h9, h⟩
    obtain ⟨⟨x0, x1, x2, x3⟩, _⟩ := box4 MW.out
    by_cases hi0 : i = 0
    ·have HK2 := hid (HK.out (fun h => by obtain ⟨_, h0, _⟩ := h; omega))
     have HI0 := hid hi0
     clear hi0
     go_wp2_with fail
     refine (CD.out _ HRW.out).mono ?_
     rintro e w2 ⟨rfl, rfl⟩
     clear CD hin HRW
     obtain ⟨z, hz⟩ : ∃ z : Int, (i : Int) = z := ⟨_, rfl⟩
     have hd3 : decide ((0 : Int) < z) = false := decide_eq_false (by have := HI0.out; omega)
     have HZZ := hid hz
     have hzn : z < 100 := by omega
     have hzp : -1 < z := by omega
     simp only [hz]
     clear hz
     go_wp2_with fail
     go_quiet (fail)
     go_wp2_with fail
     go_roundw
     case rel => exact ⟨i + 1, by have := HZZ.out; congr 1; omega, by omega, HK2.out, below_drewN BWC.out _⟩
     case measure => have := HZZ.out; simp [intOf]; omega
    have hip : 0 < i := by omega
    by_cases e1 : tn.size = 0
    case neg =>
     rw [decide_eq_false e1] at E1
     have HK2 := hid (HK.out (fun h => by obtain ⟨h1, _, h2, _⟩ := h; rw [HTT.out] at h2; exact e1 h2))
     go_wp2_with fail
     refine (CD.out _ HRW.out).mono ?_
     rintro e w2 ⟨rfl, rfl⟩
     go_wp2_with fail
     go_quiet (fail)
     go_wp2_with fail
     go_roundw
     case rel => exact ⟨i + 1, by go_num, by omega, HK2.out, below_drewN BWC.out _⟩
     case measure => simp [intOf]; omega
    rw [decide_eq_true e1] at E1
    obtain ⟨i', rfl⟩ : ∃ i', i = i' + 1 := ⟨i - 1, by omega⟩
    have hs' : i' < ts.length := by omega
    have hin' : (i' : Int) < (n : Int) := by omega
    obtain ⟨b', o', e', y0, y1⟩ := HRW.out.kindAt i' hs'
    obtain ⟨rfl, rfl⟩ : b = b' /\ o = o' := by cases e'; exact ⟨rfl, rfl⟩
    have E3 := empty_is ts[i'].name
    have z5 := (HZ.out _ (List.getElem_mem hs')).1
    by_cases e2 : ts[i'].name.size = 0
    case neg =>
     rw [decide_eq_false e2] at E3
     have HK2 := hid (HK.out (fun h => by obtain ⟨h1, _, _, h2, _⟩ := h; exact e2 h2))
     generalize ts[i'].name = nm at *
     generalize parI ts i' = PI at *
     go_wp2_with fail
     refine (CD.out _ HRW.out).mono ?_
     rintro e w2 ⟨rfl, rfl⟩
     go_wp2_with fail
     go_quiet (fail)
     go_wp2_with fail
     go_roundw
     case rel => exact ⟨i' + 1 + 1, by go_num, by omega, HK2.out, below_drewN BWC.out _⟩
     case measure => simp [intOf]; omega
    rw [decide_eq_true e2] at E3
    by_cases e3 : parI ts i' = tk
    ·have HW := hid (HF.out (fun h => (h.2.2.2.2 (i' + 1) his).2.2.2 ⟨his, by omega, by rw [HTT.out]; exact e1, e2, by
      rw [HTT.out]
      rw [parI_at hs'] at e3
      exact e3⟩))
     have hd4 : (parI ts i' == tk) = true := by simpa using e3
     clear e3
     generalize ts[i'].name = nm at *
     generalize parI ts i' = PI at *
     go_wp2_with fail
     refine (CD.out _ HRW.out).mono ?_
     rintro e w2 ⟨rfl, rfl⟩
     go_wp2_with fail
     go_quiet (fail)
     go_wp2_with fail
     go_ret
     exact ⟨by rw [HW.out]; rfl, below_drewN BWC.out _⟩
    ·have HK2 := hid (HK.out (fun h => by
      obtain ⟨h1, _, _, _, h2⟩ := h
      rw [HTT.out] at h2
      rw [parI_at hs'] at e3
      exact e3 h2))
     have hd4 : (parI ts i' == tk) = false := by simpa using e3
     generalize ts[i'].name = nm at *
     generalize parI ts i' = PI at *
     clear e3
     go_wp2_with fail
     refine (CD.out _ HRW.out).mono ?_
     rintro e w2 ⟨rfl, rfl⟩
     go_wp2_with fail
     go_quiet (fail)
     go_wp2_with fail
     go_roundw
     case rel => exact ⟨i' + 1 + 1, by go_num, by omega, HK2.out, below_drewN BWC.out _⟩
     case measure => simp [intOf]; omega

end Go.Proofs.YtlpbbkaelbafdaaGreatDoor
