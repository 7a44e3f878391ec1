/- Rows of the call's own: append within a region that draws, what stays where another row grows. What a name means: declarations, which are right, which one is the nearest (mathematics alone). Contracts of the specification's l1Of, l9Declares, l9Right. -/
import Derived.Test.YtmghipjpgoghlaaGreatM9
import Derived.Test.YtmghipjpgoghlaaGreatM10
import Derived.Test.YtmghipjpgoghlaaGreatM8
import Derived.Test.YtmghipjpgoghlaaGreatM6
import Derived.Test.YtmghipjpgoghlaaGreatM7
import Derived.Maps.AppendAt
import Derived.Deep.Upon
namespace Go.Proofs.YtmghipjpgoghlaaGreat
open Go.RowKit
set_option linter.unusedVariables false
set_option linter.unusedSimpArgs false

/-- append onto a row of the call's own, as one step of a region that draws its order. -/
theorem step_app_at {P : Program} {ops : Array Oper} {o : Oper} {a : Act} {w : World} {K : Act → World → Prop} {Q : Exit → Act → World → Prop} {E : Prop}
    (hg : o.guard = none) (s x : Operand) (t : TypeId) (hop : o.op = Op.call { callee := Callee.builtin Builtin.append, args := #[s, x], argTypes := #[t, t] })
    (base : Nat) (e : TypeId) (i : TypeInfo) (z : Value) (size bytes : Nat) (h1 : P.underlying t = some (.slice e)) (h2 : P.info? e = some i) (h3 : i.zero = some z) (h4 : i.size = size) (h5 : i.bytes = bytes) (h6 : z.cells.size = size) (h7 : 0 < size)
    (v : Value) (n : Nat) (xs : List Value) (hs : a.eval s = v) (hown : w.ownsRow base e size v n xs)
    (ad : Addr) (m c : Nat) (news : List Value) (hx : a.eval x = .slice (some ad) m c) (hn : news.length = m * size) (hc : ∀ j u, news[j]? = some u → w.cell? (ad.add j) = some u) (h1c : ∀ u ∈ news, u.oneCell' = true)
    (b1 : n + m ≤ maxLen) (b2 : (n + m) * bytes ≤ 140737488355328) (b3 : base ≤ w.heap.size)
    (hK : ∀ v' w', w'.ownsRow base e size v' (n + m) (xs ++ news) → w.grownBy w' v.ownBlock → (v'.ownBlock = v.ownBlock ∨ v'.ownBlock = some w.heap.size) → K (a.put o.dst v') w') :
    if Region.wanted o (yielded ops a.tmps) = true then Oper.wp P o a w K Q else E := by
  have hw : Region.wanted o (yielded ops a.tmps) = true := by simp [Region.wanted, hg]
  rw [if_pos hw]
  obtain ⟨v', w', hrun, r1, r2, _, r3⟩ := run_append_own_at (P := P) w base t o.type e i z size bytes h1 h2 h3 h4 h5 h6 h7 v n xs hown ad m c news hn hc h1c b1 b2 b3
  unfold Oper.wp
  simp [execOp, hop, resolve, invoke, builtin, hs, hx, hrun, Result.andThen]
  exact hK v' w' r1 r2 r3

theorem two_cells (w : World) (x y : Value) (T : TypeId) : ∀ j u, [x, y][j]? = some u → (w.alloc (.cells #[x, y] T)).cell? ((⟨w.heap.size, 0, none⟩ : Addr).add j) = some u := by
  intro j u hj
  match j, hj with
  | 0, hj => simp at hj; subst hj; simp [Addr.add]
  | 1, hj => simp at hj; subst hj; simp [Addr.add]

theorem box2e {w : World} {g : Nat} {x y : Value} {T : TypeId} (h : w.heap[g]? = some (.cells #[x, y] T (0, 0))) : (w.cell? ⟨g, 0, none⟩ = some x ∧ w.cell? ⟨g, 1, none⟩ = some y) ∧ (w.frozen? ⟨g, 0, none⟩ = false ∧ w.frozen? ⟨g, 1, none⟩ = false) :=
  ⟨⟨by rw [Lib.cell_of_heap h]; rfl, by rw [Lib.cell_of_heap h]; rfl⟩, Lib.frozen_of_heap h 0, Lib.frozen_of_heap h 1⟩

theorem box_set2 {w1 : World} {b : Nat} {x y u v : Value} {T : TypeId} (h : w1.heap[b]? = some (.cells #[x, y] T (0, 0))) : ((w1.setCell ⟨b, 0, none⟩ u).setCell ⟨b, 1, none⟩ v).heap[b]? = some (.cells #[u, v] T (0, 0)) :=
  heap_setCell_same _ _ _ _ _ _ (heap_setCell_same w1 b 0 _ _ u h)

theorem atC_app (l m : List At) : atC (l ++ m) = atC l ++ atC m := by simp [atC]

theorem cell_grownR {w w' : World} {row : Option Nat} (h : w.grownBy w' row) {b o : Nat} {v : Value} (hc : w.cell? ⟨b, o, none⟩ = some v) (hb : b < w.heap.size) (hr : row ≠ some b) : w'.cell? ⟨b, o, none⟩ = some v :=
  (World.cell?_of_block (a := ⟨b, o, none⟩) (h.block b hb (fun e => hr e.symm))).trans hc

theorem blk_grownR {w w' : World} {row : Option Nat} {e T : TypeId} {b : Nat} {c : Array Value} (h : w.heap[b]? = some (.cells c T (0, 0))) (hg : w.grownBy w' row) (hr : ∀ k, row = some k → ∃ c fz, w.heap[k]? = some (.cells c e fz)) (hT : T ≠ e) : w'.heap[b]? = some (.cells c T (0, 0)) :=
  (hg.block b (lt_of_heap h) (fun e1 => by
    obtain ⟨c2, fz2, h3⟩ := hr b e1.symm
    rw [h] at h3
    injection h3 with h3
    injection h3 with _ h4 _
    exact hT h4)).trans h

theorem Nd.Row.keepB {w w' : World} {B : Nat} {v : Value} {es : List Nd.E} {p : Nat → Prop} (h : Nd.Row w B v es) (hk : KeepB p w w') (hp : ∀ k, p k → ∀ c e fz, w.heap[k]? = some (.cells c e fz) → e ≠ 33 ∧ e ≠ 42) : Nd.Row w' B v es := by
  refine ⟨⟨h.own.1, ?_⟩, fun e he => ⟨fun hl => ?_, (h.ats e he).2⟩, h.apart⟩
  · rcases h.own.2 with h' | ⟨g, cap, cur, h1, h2, h3, h4⟩
    · exact .inl h'
    · exact .inr ⟨g, cap, cur, h1, h2, (hk.block g (lt_of_heap h3) (fun hpg => (hp g hpg _ _ _ h3).1 rfl)).trans h3, h4⟩
  · obtain ⟨g, o, cu, e1, e2, e3, e4⟩ := (h.ats e he).1 hl
    exact ⟨g, o, cu, e1, e2, (hk.block g (lt_of_heap e3) (fun hpg => (hp g hpg _ _ _ e3).2 rfl)).trans e3, e4⟩

theorem Nd.Row.kind {w : World} {B : Nat} {v : Value} {es : List Nd.E} (h : Nd.Row w B v es) : ∀ k, v.ownBlock = some k → ∃ c fz, w.heap[k]? = some (.cells c 33 fz) := by
  intro k hk
  rcases h.own.2 with ⟨rfl, _⟩ | ⟨g, cap, cur, rfl, _, hh, _⟩
  · cases hk
  · have : g = k := Option.some.inj hk
    subst this
    exact ⟨_, _, hh⟩

end Go.Proofs.YtmghipjpgoghlaaGreat

namespace Go.Proofs.YtmghipjpgoghlaaGreat
set_option linter.unusedVariables false

/-- Every sign is one of these, and there are at most so many. -/
def ofB (signs : ByteArray) (most : Nat) (s : ByteArray) : Bool := s.data.toList.all (fun c => signs.data.toList.any fun d => decide (d = c)) && decide (s.size ≤ most)

def nsS : ByteArray := ⟨#[110, 115]⟩
def sgnS : ByteArray := ⟨#[97, 98, 99, 100, 101, 102, 103, 104, 105, 106, 107, 108, 109, 110, 111, 112, 113, 114, 115, 116, 117, 118, 119, 120, 121, 122, 48, 49, 50, 51, 52, 53, 54, 55, 56, 57, 47, 46]⟩

def preS (s : ByteArray) : ByteArray := ⟨(partP s.data.toList).toArray⟩
def locS (s : ByteArray) : ByteArray := ⟨(partL s.data.toList).toArray⟩

/-- The prefix that an attr declares. -/
noncomputable def declF (x : At) : Option ByteArray := open Classical in if x.name = nsS then some ⟨#[]⟩ else if preS x.name = nsS then some (locS x.name) else none

noncomputable def rightB (x : At) : Bool := match declF x with
  | none => true
  | some p => ofB sgnS 20 x.value && (decide (p.size = 0) || !decide (x.value.size = 0))

/-- It declares this one. -/
noncomputable def declB (p : ByteArray) (x : At) : Bool := open Classical in decide (declF x = some p)

/-- All attrs from an element on, outwards. -/
def upAts (ts : List Tk) (c : List Nat) : List At := c.flatMap fun j => match ts[j]? with | some t => t.attrs | none => []

/-- What a prefix means by these. -/
noncomputable def meanL (l : List At) (p : ByteArray) : Option ByteArray :=
  if l.all rightB then (match l.find? (declB p) with | some x => some x.value | none => if p.size = 0 then some ⟨#[]⟩ else none) else none

noncomputable def meanF (ts : List Tk) (k : Nat) (p : ByteArray) : Option ByteArray := meanL (upAts ts (chainF ts (k + 1))) p

/-- What the search holds behind these attrs. -/
structure Held (l : List At) (p : ByteArray) (m : ByteArray) (found set : Bool) : Prop where
  right : l.all rightB = true
  isSet : set = (l.find? (declB p)).isSome
  isM : m = ((l.find? (declB p)).map (·.value)).getD ⟨#[]⟩
  isF : found = (decide (p.size = 0) || set)

theorem Held.start (p : ByteArray) : Held [] p ⟨#[]⟩ (decide (p.size = 0)) false := ⟨rfl, rfl, rfl, by rw [Bool.or_false]⟩

theorem Held.next {l : List At} {p m : ByteArray} {found set : Bool} (h : Held l p m found set) {x : At} (hr : rightB x = true) (hx : (declB p x && !set) = false) : Held (l ++ [x]) p m found set := by
  have e : (l ++ [x]).find? (declB p) = l.find? (declB p) := by
    rw [List.find?_append]
    cases hf : l.find? (declB p) with
    | some y => rfl
    | none =>
      have hs : set = false := by rw [h.isSet, hf]; rfl
      rw [hs] at hx
      simp at hx
      simp [hx]
  exact ⟨by rw [List.all_append, h.right]; simp [hr], by rw [e]; exact h.isSet, by rw [e]; exact h.isM, h.isF⟩

theorem Held.hit {l : List At} {p m : ByteArray} {found : Bool} (h : Held l p m found false) {x : At} (hr : rightB x = true) (hx : declB p x = true) : Held (l ++ [x]) p x.value true true := by
  have hn : l.find? (declB p) = none := by
    cases hf : l.find? (declB p) with
    | some y => have := h.isSet; rw [hf] at this; cases this
    | none => rfl
  have e : (l ++ [x]).find? (declB p) = some x := by
    rw [List.find?_append, hn]
    simp [hx]
  exact ⟨by rw [List.all_append, h.right]; simp [hr], by rw [e]; rfl, by rw [e]; rfl, by rw [Bool.or_true]⟩

theorem Held.fin {l : List At} {p m : ByteArray} {found set : Bool} (h : Held l p m found set) : (meanL l p).getD ⟨#[]⟩ = m ∧ (meanL l p).isSome = found := by
  unfold meanL
  rw [if_pos h.right, h.isM, h.isF, h.isSet]
  cases hf : l.find? (declB p) with
  | some y => simp
  | none =>
    by_cases hp : p.size = 0
    · simp [hp]
    · simp [hp]

theorem mean_wrong {l : List At} {x : At} (hx : x ∈ l) (h : rightB x = false) (p : ByteArray) : meanL l p = none := by
  unfold meanL
  rw [if_neg]
  intro ha
  have := List.all_eq_true.1 ha x hx
  rw [h] at this
  cases this

/-- The attrs from one on are his and those further out. -/
theorem upAts_at {ts : List Tk} {c : List Nat} {m : Nat} (hm : m < c.length) (hc : c[m] < ts.length) : upAts ts (c.take (m + 1)) = upAts ts (c.take m) ++ ts[c[m]].attrs := by
  unfold upAts
  rw [List.take_succ_eq_append_getElem hm, List.flatMap_append]
  simp [List.getElem?_eq_getElem hc]

theorem upAts_mem {ts : List Tk} {c : List Nat} {m : Nat} (hm : m < c.length) (hc : c[m] < ts.length) {x : At} (hx : x ∈ ts[c[m]].attrs) : x ∈ upAts ts c := by
  unfold upAts
  exact List.mem_flatMap.2 ⟨c[m], List.getElem_mem hm, by rw [List.getElem?_eq_getElem hc]; exact hx⟩

end Go.Proofs.YtmghipjpgoghlaaGreat

namespace Go.Proofs.YtmghipjpgoghlaaGreat
open Go.RowKit
set_option linter.unusedVariables false
set_option linter.unusedSimpArgs false

def inB (signs : ByteArray) (c : UInt8) : Bool := signs.data.toList.any fun d => decide (d = c)

theorem u8_beq (a b : UInt8) : ((a.toNat : Int) == (b.toNat : Int)) = decide (a = b) := by
  by_cases h : a = b
  · subst h; simp
  · rw [decide_eq_false h]
    have : ¬ a.toNat = b.toNat := fun e => h (UInt8.toNat_inj.1 e)
    simp
    omega

set_option maxHeartbeats 2000000 in
theorem c_spec_l1Of (signs : ByteArray) (most : Nat) (s : ByteArray) (w : World) (hs : s.size ≤ 1048576) (hg : signs.size ≤ 256) (hm : most ≤ 1000) :
    Calls Tryz.prog 129 #[.string s, .string signs, .int .i64 (most : Int)] w fun e w' => e = .returned (.bool (ofB signs most s)) ∧ Below w.heap.size w w' := by
  obtain ⟨V, hV⟩ : ∃ V, ofB signs most s = V := ⟨_, rfl⟩
  have HV := hid hV
  rw [hV]
  clear hV
  go_enter Tryz.func129, Tryz.ntmps129
  go_wp2_with fail
  go_loopw [7] (fun k wr => ∃ i : Nat, k = .int .i64 (i : Int) ∧ i ≤ s.size ∧ Hid ((s.data.toList.take i).all (inB signs) = true) ∧ Hid (Below w.heap.size w wr)) (fun k _ => s.size - (intOf k).toNat)
  case atStart => exact ⟨0, rfl, Nat.zero_le _, rfl, Below.refl _ _⟩
  case round =>
    obtain ⟨i, rfl, hi, HA, HB⟩ := hrel
    by_cases hlt : i < s.size
    · have hin : (i : Int) < (s.size : Int) := by omega
      go_wp2_with fail
      go_loopw [8, 9] (fun v k wr => ∃ j : Nat, k = .int .i64 (j : Int) ∧ j ≤ signs.size ∧ v = .bool ((signs.data.toList.take j).any fun d => decide (d = s[i])) ∧ Hid (Below w.heap.size w wr)) (fun _ k _ => signs.size - (intOf k).toNat)
      case atStart => exact ⟨0, rfl, Nat.zero_le _, rfl, HB.out⟩
      case round =>
        clear HB
        obtain ⟨j, rfl, hj, rfl, HB⟩ := hrel
        by_cases hjl : j < signs.size
        · have hjn : (j : Int) < (signs.size : Int) := by omega
          have HE := hid (show (signs.data.toList.take (j + 1)).any (fun d => decide (d = s[i])) = ((signs.data.toList.take j).any (fun d => decide (d = s[i])) || decide (signs[j] = s[i])) by
            rw [take_snoc signs j hjl, List.any_append]
            simp)
          generalize (signs.data.toList.take j).any (fun d => decide (d = s[i])) = P at *
          have hq := u8_beq signs[j] s[i]
          generalize decide (signs[j] = s[i]) = D at *
          cases P
          · go_wp2_with fail
            go_quiet (fail)
            go_wp2_with fail
            go_roundw
            case rel => exact ⟨j + 1, by go_num, by omega, by rw [HE.out]; rfl, below_drewN HB.out _⟩
            case measure => simp [intOf]; omega
          · go_wp2_with fail
            go_quiet (fail)
            go_wp2_with fail
            go_roundw
            case rel => exact ⟨j + 1, by go_num, by omega, by rw [HE.out]; rfl, below_drewN HB.out _⟩
            case measure => simp [intOf]; omega
        · have hje : j = signs.size := by omega
          subst hje
          rw [take_full signs _ (by omega)]
          have HI := hid (show signs.data.toList.any (fun d => decide (d = s[i])) = inB signs s[i] from rfl)
          rw [HI.out]
          cases hP : inB signs s[i]
          · have HF := hid (show V = false by
              rw [← HV.out]
              unfold ofB
              rw [Bool.and_eq_false_imp]
              intro h
              have h2 := List.all_eq_true.1 h s[i] (List.getElem_mem _)
              have h3 : inB signs s[i] = true := h2
              rw [hP] at h3
              cases h3)
            clear hP
            go_wp2_with fail
            go_ret
            exact ⟨by rw [HF.out]; rfl, HB.out⟩
          · have HA2 := hid (show (s.data.toList.take (i + 1)).all (inB signs) = true by rw [take_snoc s i hlt, List.all_append, HA.out]; simp [hP])
            clear hP
            go_wp2_with fail
            go_roundw
            case rel => exact ⟨i + 1, by go_num, by omega, HA2.out, HB.out⟩
            case measure => simp [intOf]; omega
    · have hie : i = s.size := by omega
      subst hie
      have hA := HA.out
      rw [take_full s _ (by omega)] at hA
      have HF := hid (show V = decide (s.size ≤ most) by
        rw [← HV.out]
        unfold ofB
        have h : (s.data.toList.all fun c => signs.data.toList.any fun d => decide (d = c)) = true := hA
        rw [h, Bool.true_and])
      clear hA HA
      go_wp2_with fail
      go_ret
      exact ⟨by rw [HF.out]; rfl, HB.out⟩

theorem ns_beq (s : ByteArray) : (s.toList == [110, 115]) = decide (s = nsS) := by
  rw [← str_beq]
  have e : nsS.toList = [110, 115] := by rw [ByteArray.toList_eq]; rfl
  rw [e]

theorem cPartsX (s : ByteArray) (w : World) (h0 : s.size ≤ 1048576) :
    Calls Tryz.prog 46 #[.string s] w fun e w' => e = .returned (.tuple #[.string (preS s), .string (locS s)]) ∧ Below w.heap.size w w' := c_spec_Parts s w h0

set_option maxHeartbeats 2000000 in
theorem c_spec_l9Declares (x : At) (w : World) (hz : x.name.size ≤ 1048576) :
    Calls Tryz.prog 48 #[.agg #[.string x.name, .string x.value]] w fun e w' => e = .returned (.tuple #[.string ((declF x).getD ⟨#[]⟩), .bool (declF x).isSome]) ∧ Below w.heap.size w w' := by
  have HB := hid ((Below.refl w.heap.size w).alloc (Nat.le_refl _) (.cells #[.string x.name, .string x.value] 42))
  by_cases h1 : x.name = nsS
  · have HE := hid (show declF x = some ⟨#[]⟩ by unfold declF; rw [if_pos h1])
    rw [HE.out]
    have hd : (x.name.toList == [110, 115]) = true := by rw [ns_beq]; exact decide_eq_true h1
    clear h1
    generalize x.name = n at *
    generalize x.value = v at *
    go_enter Tryz.func48, Tryz.ntmps48
    go_wp2_with fail
    go_ret2
    exact ⟨rfl, HB.out⟩
  · have hd : (x.name.toList == [110, 115]) = false := by rw [ns_beq]; exact decide_eq_false h1
    have C := hid (fun wx => cPartsX x.name wx hz)
    by_cases h2 : preS x.name = nsS
    · have HE := hid (show declF x = some (locS x.name) by unfold declF; rw [if_neg h1, if_pos h2])
      rw [HE.out]
      have hd2 : ((preS x.name).toList == [110, 115]) = true := by rw [ns_beq]; exact decide_eq_true h2
      clear h1 h2 HE
      generalize preS x.name = P at *
      generalize locS x.name = L at *
      generalize x.name = n at *
      generalize x.value = v at *
      go_enter Tryz.func48, Tryz.ntmps48
      go_wp2_with fail
      refine (C.out _).mono ?_
      rintro e w1 ⟨rfl, hb1⟩
      have HB1 := hid (bb HB.out hb1)
      clear hb1 C
      go_wp2_with fail
      go_ret2
      exact ⟨rfl, HB1.out⟩
    · have HE := hid (show declF x = none by unfold declF; rw [if_neg h1, if_neg h2])
      rw [HE.out]
      have hd2 : ((preS x.name).toList == [110, 115]) = false := by rw [ns_beq]; exact decide_eq_false h2
      clear h1 h2 HE
      generalize preS x.name = P at *
      generalize locS x.name = L at *
      generalize x.name = n at *
      generalize x.value = v at *
      go_enter Tryz.func48, Tryz.ntmps48
      go_wp2_with fail
      refine (C.out _).mono ?_
      rintro e w1 ⟨rfl, hb1⟩
      have HB1 := hid (bb HB.out hb1)
      clear hb1 C
      go_wp2_with fail
      go_ret2
      exact ⟨rfl, HB1.out⟩

theorem box_two (w : World) (x y : Value) (T : TypeId) : (w.alloc (.cells #[x, y] T)).cell? ⟨w.heap.size, 0, none⟩ = some x ∧ (w.alloc (.cells #[x, y] T)).cell? ⟨w.heap.size, 1, none⟩ = some y ∧ w.heap.size < (w.alloc (.cells #[x, y] T)).heap.size := by
  refine ⟨?_, ?_, by simp⟩
  · rw [Lib.cell_of_heap (heap_alloc_new w _)]; rfl
  · rw [Lib.cell_of_heap (heap_alloc_new w _)]; rfl

set_option maxHeartbeats 2000000 in
theorem c_spec_l9Right (x : At) (w : World) (hz : x.name.size ≤ 1048576) (hv : x.value.size ≤ 1048576) :
    Calls Tryz.prog 88 #[.agg #[.string x.name, .string x.value]] w fun e w' => e = .returned (.bool (rightB x)) ∧ Below w.heap.size w w' := by
  have HB := hid ((Below.refl w.heap.size w).alloc (Nat.le_refl _) (.cells #[.string x.name, .string x.value] 42))
  have HX := hid (box_two w (.string x.name) (.string x.value) 42)
  have C := hid (fun wx => c_spec_l9Declares x wx hz)
  have CO := hid (fun wx => c_spec_l1Of sgnS 20 x.value wx hv (by decide) (by omega))
  have EV := empty_is x.value
  cases hd : declF x with
  | none =>
    have HE := hid (show rightB x = true by unfold rightB; rw [hd])
    rw [HE.out]
    rw [hd] at C
    clear hd HE CO EV
    generalize x.name = n at *
    generalize x.value = v at *
    go_enter Tryz.func88, Tryz.ntmps88
    go_wp2_with fail
    refine (C.out _).mono ?_
    rintro e w1 ⟨rfl, hb1⟩
    have HB1 := hid (bb HB.out hb1)
    clear hb1 C
    go_wp2_with fail
    go_ret
    exact ⟨rfl, HB1.out⟩
  | some p =>
    have HE := hid (show rightB x = (ofB sgnS 20 x.value && (decide (p.size = 0) || !decide (x.value.size = 0))) by unfold rightB; rw [hd])
    rw [HE.out]
    rw [hd] at C
    have EP := empty_is p
    clear hd HE
    generalize ofB sgnS 20 x.value = B at *
    generalize decide (p.size = 0) = D at *
    generalize decide (x.value.size = 0) = F at *
    generalize x.name = n at *
    generalize x.value = v at *
    unfold sgnS at CO
    go_enter Tryz.func88, Tryz.ntmps88
    go_wp2_with fail
    refine (C.out _).mono ?_
    rintro e w1 ⟨rfl, hb1⟩
    have HB1 := hid (bb HB.out hb1)
    have d2 := hid ((hb1.cell (p := ⟨w.heap.size, 1, none⟩) HX.out.2.2).trans HX.out.2.1)
    have d3 := hid (Nat.lt_of_lt_of_le HX.out.2.2 hb1.size)
    have d2' := d2.out
    clear hb1 C HB HX
    go_wp2_with fail
    refine (CO.out _).mono ?_
    rintro e w2 ⟨rfl, hb2⟩
    have HB2 := hid (bb HB1.out hb2)
    have e2 := (hb2.cell (p := ⟨w.heap.size, 1, none⟩) d3.out).trans d2.out
    clear hb2 CO HB1 d2' d2 d3
    cases B
    · go_wp2_with fail
      go_ret
      exact ⟨rfl, HB2.out⟩
    · cases D
      · go_wp2_with fail
        go_ret
        exact ⟨by cases F <;> rfl, HB2.out⟩
      · go_wp2_with fail
        go_ret
        exact ⟨rfl, HB2.out⟩

end Go.Proofs.YtmghipjpgoghlaaGreat
