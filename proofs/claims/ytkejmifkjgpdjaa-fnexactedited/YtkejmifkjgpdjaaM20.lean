/- Contracts of attrAt and ValueIn of the program. Contracts of attrsOk and TokenOk of the program. Contracts of isText, tokenOf and besideText of the program. -/
import Derived.Test.YtkejmifkjgpdjaaM1
import Derived.Test.YtkejmifkjgpdjaaM6
import Derived.Test.YtkejmifkjgpdjaaM8
import Derived.Test.YtkejmifkjgpdjaaM19
namespace Go.Proofs.Ytkejmifkjgpdjaa
open Go.RowKit
set_option linter.unusedVariables false
set_option linter.unusedSimpArgs false

/-- Where the first with this name stands, or -1. -/
def IdxIs (l : List At) (name : ByteArray) (r : Int) : Prop :=
  (r = -1 ∧ ∀ x ∈ l, ¬ x.name = name) ∨ ∃ i : Nat, ∃ h : i < l.length, r = (i : Int) ∧ l[i].name = name ∧ ∀ x ∈ l.take i, ¬ x.name = name

theorem cell_alloc {w : World} {p : Addr} {v : Value} (h : w.cell? p = some v) (hp : p.block < w.heap.size) (o : Obj) : (w.alloc o).cell? p = some v :=
  (((Below.refl w.heap.size w).alloc (Nat.le_refl _) o).cell hp).trans h

set_option maxHeartbeats 1000000 in
theorem cAttrAt1 (n v name : ByteArray) (b o : Nat) (w : World) (hp : b < w.heap.size) (hc : w.cell? ⟨b, o, none⟩ = some (.string name)) (hn : n.size ≤ 1048576) (hm : name.size ≤ 1048576) :
    Calls Try.prog 96 #[.agg #[.string n, .string v], .pointer (some ⟨b, o, none⟩)] w fun e w' => e = .returned (.bool (decide (n = name))) ∧ Below w.heap.size w w' := by
  have HB0 := hid ((Below.refl w.heap.size w).alloc (Nat.le_refl _) (.cells #[.string n, .string v] 86))
  have c1 := cell_alloc hc hp (.cells #[.string n, .string v] 86)
  have hd := str_beq n name
  generalize decide (n = name) = D at hd ⊢
  clear hc
  go_enter Try.func96, Try.ntmps96
  go_wp2
  go_ret
  exact ⟨rfl, HB0.out⟩

set_option maxHeartbeats 1000000 in
theorem cIndexFunc (a : Option Addr) (cap : Nat) (l : List At) (name : ByteArray) (b0 o0 : Nat) (w : World) (hR : AtRow w a l) (hz : AtSz 1048576 l) (hn : l.length ≤ 1048576) (hm : name.size ≤ 1048576)
    (hp : b0 < w.heap.size) (hc : w.cell? ⟨b0, o0, none⟩ = some (.string name)) :
    Calls Try.prog 95 #[.slice a l.length cap, .func (.func 96) #[] #[.pointer (some ⟨b0, o0, none⟩)]] w fun e w' => ∃ r : Int, e = .returned (.int .i64 r) ∧ IdxIs l name r ∧ Below w.heap.size w w' := by
  have HR := hid hR
  have HZ := hid hz
  have HC := hid hc
  have HP := hid hp
  clear hR hz hc hp
  obtain ⟨n, hnn⟩ : ∃ n, l.length = n := ⟨_, rfl⟩
  have HN := hid hnn
  rw [hnn] at hn ⊢
  clear hnn
  go_enter Try.func95, Try.ntmps95
  go_wp2
  go_loopw [8] (fun k wr => ∃ i : Nat, k = .int .i64 (i : Int) ∧ i ≤ n ∧ Hid (∀ x ∈ l.take i, ¬ x.name = name) ∧ Hid (Below w.heap.size w wr)) (fun k _ => n - (intOf k).toNat)
  case atStart => exact ⟨0, rfl, Nat.zero_le _, fun x hx => by simp at hx, Below.refl _ _⟩
  case round =>
    obtain ⟨i, rfl, hi, HO, HB⟩ := hrel
    by_cases hlt : i < n
    · have his : i < l.length := by rw [HN.out]; exact hlt
      obtain ⟨b, o, rfl, hb, c1, c2⟩ := HR.out.below HB.out i his
      have hin : (i : Int) < (n : Int) := by omega
      have HT := hid (take_snocN his)
      have z1 := (HZ.out _ (List.getElem_mem his)).1
      have HS := hid HB.out.size
      have HCr := hid ((HB.out.cell (p := ⟨b0, o0, none⟩) HP.out).trans HC.out)
      have C := hid (cAttrAt1 l[i].name l[i].value name b0 o0 wr (Nat.lt_of_lt_of_le HP.out HS.out) HCr.out z1 hm)
      by_cases hq : l[i].name = name
      · have HI := hid (show IdxIs l name (i : Int) from .inr ⟨i, his, rfl, hq, HO.out⟩)
        have e0 : decide (l[i].name = name) = true := decide_eq_true hq
        rw [e0] at C
        generalize l[i].name = x at *
        generalize l[i].value = y at *
        clear hq e0
        go_wp2_with fail
        refine C.out.mono ?_
        rintro e w1 ⟨rfl, hb1⟩
        have HB1 := hid (bb HB.out hb1)
        go_wp2
        go_ret
        exact ⟨_, rfl, HI.out, HB1.out⟩
      · have HO2 := hid (show ∀ x ∈ l.take (i + 1), ¬ x.name = name by
          rw [HT.out]
          intro x hx
          rcases List.mem_append.1 hx with h | h
          · exact HO.out x h
          · rw [List.mem_singleton] at h
            subst h
            exact hq)
        have e0 : decide (l[i].name = name) = false := decide_eq_false hq
        rw [e0] at C
        generalize l[i].name = x at *
        generalize l[i].value = y at *
        clear hq e0
        go_wp2_with fail
        refine C.out.mono ?_
        rintro e w1 ⟨rfl, hb1⟩
        have HB1 := hid (bb HB.out hb1)
        go_wp2
        go_roundw
        case rel => exact ⟨i + 1, by go_num, by omega, HO2.out, HB1.out⟩
        case measure => simp [intOf]; omega
    · have hie : i = n := by omega
      subst hie
      have h1 := HO.out
      rw [List.take_of_length_le (by rw [HN.out]; exact Nat.le_refl _)] at h1
      have HI := hid (show IdxIs l name (-1) from .inl ⟨rfl, h1⟩)
      clear h1
      go_wp2
      go_ret
      exact ⟨_, rfl, HI.out, HB.out⟩

set_option maxHeartbeats 1000000 in
theorem cAttrAt (a : Option Addr) (cap : Nat) (l : List At) (name : ByteArray) (w : World) (hR : AtRow w a l) (hz : AtSz 1048576 l) (hn : l.length ≤ 1048576) (hm : name.size ≤ 1048576) :
    Calls Try.prog 86 #[.slice a l.length cap, .string name] w fun e w' => ∃ r : Int, e = .returned (.int .i64 r) ∧ IdxIs l name r ∧ Below w.heap.size w w' := by
  have hmf : ∀ (fn : Fn) (first cap : Array Value) (w : World), (Instr.makeFunc fn first cap).run Try.prog w = .ok (.func fn first cap) w := fun _ _ _ _ => rfl
  have HB0 := hid ((Below.refl w.heap.size w).alloc (Nat.le_refl _) (.cells #[.string name] 9))
  have C := hid (cIndexFunc a cap l name w.heap.size 0 (w.alloc (.cells #[.string name] 9)) (hR.below HB0.out) hz hn hm (by simp) (by simp [go_sem]))
  clear hR hz
  generalize l.length = n at *
  go_enter Try.func86, Try.ntmps86
  go_wp2_with fail
  refine C.out.mono ?_
  rintro e w1 ⟨r, rfl, hr, hb1⟩
  have HI := hid hr
  have HB1 := hid (bb HB0.out hb1)
  clear hr hb1
  go_wp2
  go_ret
  exact ⟨_, rfl, HI.out, HB1.out⟩

end Go.Proofs.Ytkejmifkjgpdjaa

namespace Go.Proofs.Ytkejmifkjgpdjaa
open Go.RowKit
set_option linter.unusedVariables false
set_option linter.unusedSimpArgs false

theorem cValueOkI (s : ByteArray) (w : World) (hs : s.size ≤ 1048576) :
    Calls Try.prog 70 #[.string s] w fun e w' => e = .returned (.bool (decide (s.size ≤ 60) && plainL s.data.toList)) ∧ w' = w := by
  have CP := fun w => c_impl_PlainOk s w (by unfold maxLen; omega)
  by_cases q : s.size ≤ 60
  · rw [decide_eq_true q, Bool.true_and]
    have hd : decide ((s.size : Int) ≤ 60) = true := by simp; omega
    go_enter Try.func70, Try.ntmps70
    go_wp2_with fail
    refine (CP _).mono ?_
    rintro e w1 ⟨rfl, rfl⟩
    go_wp2_with fail
    go_ret
    exact ⟨rfl, rfl⟩
  · rw [decide_eq_false q, Bool.false_and]
    have hd : decide ((s.size : Int) ≤ 60) = false := by simp; omega
    clear CP
    go_enter Try.func70, Try.ntmps70
    go_wp2_with fail
    go_ret
    exact ⟨rfl, rfl⟩

theorem box2c {w : World} {g : Nat} {x y : Value} {T : TypeId} (h : w.heap[g]? = some (.cells #[x, y] T (0, 0))) : w.cell? ⟨g, 0, none⟩ = some x ∧ w.cell? ⟨g, 1, none⟩ = some y :=
  ⟨by rw [Lib.cell_of_heap h]; rfl, by rw [Lib.cell_of_heap h]; rfl⟩

set_option maxRecDepth 8000 in
set_option maxHeartbeats 4000000 in
theorem cAttrsOkI (a : Option Addr) (cap : Nat) (l : List At) (w : World) (hR : AtRow w a l) (hz : AtSz 1048576 l) (hn : l.length ≤ 1048576) :
    Calls Try.prog 69 #[.slice a l.length cap] w fun e w' => e = .returned (.bool (attrsB l)) ∧ Below w.heap.size w w' := by
  obtain ⟨V, hV⟩ : ∃ V, attrsB l = V := ⟨_, rfl⟩
  have HV := hid hV
  rw [hV]
  have HF : Hid (¬ AttrsOk l → V = false) := fun h => by rw [← HV.out]; exact attrsB_f h
  have HT : Hid (AttrsOk l → V = true) := fun h => by rw [← HV.out]; exact attrsB_t h
  clear hV HV
  have HR := hid hR
  have HZ := hid hz
  have HC := hid (fun (w : World) (hR : AtRow w a l) name (hm : name.size ≤ 1048576) => cAttrAt a cap l name w hR hz hn hm)
  clear hR hz
  obtain ⟨n, hnn⟩ : ∃ n, l.length = n := ⟨_, rfl⟩
  have HN := hid hnn
  rw [hnn] at hn HC ⊢
  clear hnn
  by_cases h6 : n ≤ 6
  · have d6 : decide ((6 : Int) < (n : Int)) = false := by simp; omega
    go_enter Try.func69, Try.ntmps69
    go_wp2
    go_loopw [10] (fun k wr => ∃ i : Nat, k = .int .i64 (i : Int) ∧ i ≤ n ∧ Hid (AtsOk i l) ∧ Hid (Below w.heap.size w wr)) (fun k _ => n - (intOf k).toNat)
    case atStart => exact ⟨0, rfl, Nat.zero_le _, ⟨fun j _ h => by omega, fun i j _ _ h => by omega⟩, Below.refl _ _⟩
    case round =>
      obtain ⟨i, rfl, hi, HA, HB⟩ := hrel
      by_cases hlt : i < n
      · have his : i < l.length := by rw [HN.out]; exact hlt
        have hin : (i : Int) < (n : Int) := by omega
        obtain ⟨b, o, rfl, hb, c1, c2⟩ := HR.out.below HB.out i his
        obtain ⟨z1, z2⟩ := HZ.out _ (List.getElem_mem his)
        have CN := hid (fun w => c_impl_NameOk l[i].name w z1)
        have CV := hid (fun w => cValueOkI l[i].value w z2)
        have M := hid (heap_alloc_new wr (.cells #[.string l[i].name, .string l[i].value] 86))
        have HB0 := hid (HB.out.alloc HB.out.size (.cells #[.string l[i].name, .string l[i].value] 86))
        cases q1 : nameL l[i].name.data.toList
        · have HW := hid (HF.out (fun h => by have := (h.2.1 i his (by rw [HN.out]; exact hlt)).1; rw [q1] at this; cases this))
          rw [q1] at CN
          generalize l[i].name = x at *
          generalize l[i].value = y at *
          clear CV HC
          go_wp2_with fail
          refine (CN.out _).mono ?_
          rintro e w1 ⟨rfl, hb1⟩
          have HB1 := hid (bb HB0.out hb1)
          clear hb1 c1 c2 CN
          go_wp2_with fail
          go_ret
          exact ⟨by rw [HW.out]; rfl, HB1.out⟩
        · cases q2 : (decide (l[i].value.size ≤ 60) && plainL l[i].value.data.toList)
          · have HW := hid (HF.out (fun h => by
              obtain ⟨_, k1, k2⟩ := h.2.1 i his (by rw [HN.out]; exact hlt)
              rw [k1, decide_eq_true k2] at q2
              cases q2))
            rw [q1] at CN
            rw [q2] at CV
            generalize l[i].name = x at *
            generalize l[i].value = y at *
            clear HC
            go_wp2_with fail
            refine (CN.out _).mono ?_
            rintro e w1 ⟨rfl, hb1⟩
            have HB1 := hid (bb HB0.out hb1)
            obtain ⟨x0, x1⟩ := box2c (blk_below M.out hb1)
            clear hb1 c1 c2 CN
            go_wp2_with fail
            refine (CV.out _).mono ?_
            rintro e w2 ⟨rfl, rfl⟩
            go_wp2_with fail
            go_ret
            exact ⟨by rw [HW.out]; rfl, HB1.out⟩
          · have HOK := hid (show atOk l[i] from ⟨q1, by
              simp only [Bool.and_eq_true, decide_eq_true_eq] at q2
              exact ⟨q2.2, q2.1⟩⟩)
            rw [q1] at CN
            rw [q2] at CV
            obtain ⟨x, hx⟩ : ∃ x, l[i].name = x := ⟨_, rfl⟩
            obtain ⟨y, hy⟩ : ∃ y, l[i].value = y := ⟨_, rfl⟩
            have HX := hid hx
            rw [hx] at c1 CN z1 M HB0
            rw [hy] at c2 CV z2 M HB0
            have HCx := hid (fun w1 (h : Below w.heap.size w w1) => HC.out w1 (HR.out.below h) x z1)
            clear hx hy q1 q2 HC
            go_wp2_with fail
            refine (CN.out _).mono ?_
            rintro e w1 ⟨rfl, hb1⟩
            have HB1 := hid (bb HB0.out hb1)
            obtain ⟨x0, x1⟩ := box2c (blk_below M.out hb1)
            clear hb1 c1 c2 CN
            go_wp2_with fail
            refine (CV.out _).mono ?_
            rintro e w2 ⟨rfl, rfl⟩
            go_wp2_with fail
            refine (HCx.out _ HB1.out).mono ?_
            rintro e w3 ⟨r, rfl, hr, hb3⟩
            have HB3 := hid (bb HB1.out hb3)
            clear hb3 x0 x1
            rcases hr with ⟨_, h1⟩ | ⟨j, hj, rfl, hq, h1⟩
            · exact absurd HX.out (h1 _ (List.getElem_mem his))
            · have hji : j ≤ i := by
                rcases Nat.lt_or_ge i j with h' | h'
                · exact absurd HX.out (h1 l[i] (List.mem_take_iff_getElem.2 ⟨i, by omega, rfl⟩))
                · exact h'
              rcases Nat.lt_or_eq_of_le hji with h' | rfl
              · have HW := hid (HF.out (fun h => h.2.2 i j his h' (by rw [HN.out]; exact hlt) (by rw [hq, HX.out])))
                have hd : ((j : Int) == (i : Int)) = false := by simp; omega
                clear hq h1 hj hji h'
                go_wp2_with fail
                go_ret
                exact ⟨by rw [HW.out]; rfl, HB3.out⟩
              · have HA2 := hid (HA.out.next his HOK.out (fun m hm => by
                  intro e
                  exact h1 l[m] (List.mem_take_iff_getElem.2 ⟨m, by omega, rfl⟩) (e.trans HX.out)))
                clear hq h1 hj hji
                go_wp2_with fail
                go_roundw
                case rel => exact ⟨j + 1, by go_num, by omega, HA2.out, HB3.out⟩
                case measure => simp [intOf]; omega
      · have hie : i = n := by omega
        subst hie
        have HW := hid (HT.out ⟨by rw [HN.out]; exact h6, by rw [HN.out]; exact HA.out⟩)
        go_wp2_with fail
        go_ret
        exact ⟨by rw [HW.out]; rfl, HB.out⟩
  · have d6 : decide ((6 : Int) < (n : Int)) = true := by simp; omega
    have HW := hid (HF.out (fun h => h6 (by have := h.1; rw [HN.out] at this; exact this)))
    go_enter Try.func69, Try.ntmps69
    go_wp2
    go_ret
    exact ⟨by rw [HW.out]; rfl, Below.refl _ _⟩

set_option maxRecDepth 8000 in
set_option maxHeartbeats 2000000 in
theorem cTokenOkI (t : Tk) (a : Option Addr) (cap : Nat) (w : World) (hR : AtRow w a t.attrs) (hz : TkSz 1048576 t) :
    Calls Try.prog 46 #[tkV t a cap] w fun e w' => e = .returned (.bool (tokB t)) ∧ Below w.heap.size w w' := by
  obtain ⟨k, name, l, text⟩ := t
  obtain ⟨h1, h2, h3, h4⟩ := hz
  simp only at hR h1 h2 h3 h4
  have HB0 := hid ((Below.refl w.heap.size w).alloc (Nat.le_refl _) (.cells #[.int .i64 k, .string name, .slice a l.length cap, .string text] 76))
  have HR := hid (hR.below HB0.out)
  have CN := fun w => c_impl_NameOk name w h1
  have CA := fun (w : World) (hR : AtRow w a l) => cAttrsOkI a cap l w hR h3 h2
  have CX := fun w => cValueOkI text w h4
  have E1 := empty_is name
  have E2 := empty_is text
  obtain ⟨V, hV⟩ : ∃ V, tokB ⟨k, name, l, text⟩ = V := ⟨_, rfl⟩
  have HV := hid hV
  rw [hV]
  clear hV hR h3
  simp only [tkV]
  obtain ⟨n, hn⟩ : ∃ n, l.length = n := ⟨_, rfl⟩
  have HN := hid hn
  rw [hn] at CA HB0 HR h2 ⊢
  clear hn
  have E3 : ((n : Int) == 0) = decide (n = 0) := by
    by_cases h : n = 0
    · subst h; rfl
    · rw [decide_eq_false h]; simp; omega
  by_cases k1 : k = 1
  · subst k1
    have hv := HV.out
    unfold tokB at hv
    simp only [if_true] at hv
    cases q1 : nameL name.data.toList
    · rw [q1] at hv CN
      have HW := hid (show V = false from hv.symm)
      clear hv CA CX
      go_enter Try.func46, Try.ntmps46
      go_wp2_with fail
      refine (CN _).mono ?_
      rintro e w1 ⟨rfl, hb1⟩
      have HB1 := hid (bb HB0.out hb1)
      go_wp2_with fail
      go_ret
      exact ⟨by rw [HW.out]; rfl, HB1.out⟩
    · rw [q1, Bool.true_and] at hv
      rw [q1] at CN
      cases q2 : attrsB l
      · rw [q2] at hv CA
        have HW := hid (show V = false from hv.symm)
        clear hv CX
        go_enter Try.func46, Try.ntmps46
        go_wp2_with fail
        refine (CN _).mono ?_
        rintro e w1 ⟨rfl, hb1⟩
        obtain ⟨hc, hf⟩ := bcell hb1
        have HB1 := hid (bb HB0.out hb1)
        have HR1 := hid (HR.out.below hb1)
        go_wp2_with fail
        refine (CA _ HR1.out).mono ?_
        rintro e w2 ⟨rfl, hb2⟩
        have HB2 := hid (bb HB1.out hb2)
        go_wp2_with fail
        go_ret
        exact ⟨by rw [HW.out]; rfl, HB2.out⟩
      · rw [q2, Bool.true_and] at hv
        rw [q2] at CA
        have HW := hid hv
        rw [hv] at E2
        clear hv CX
        go_enter Try.func46, Try.ntmps46
        go_wp2_with fail
        refine (CN _).mono ?_
        rintro e w1 ⟨rfl, hb1⟩
        obtain ⟨hc, hf⟩ := bcell hb1
        have HB1 := hid (bb HB0.out hb1)
        have HR1 := hid (HR.out.below hb1)
        have hz1 : w.heap.size < w1.heap.size := by have := hb1.size; simp at this; omega
        go_wp2_with fail
        refine (CA _ HR1.out).mono ?_
        rintro e w2 ⟨rfl, hb2⟩
        obtain ⟨hc2, hf2⟩ := bcell hb2
        have HB2 := hid (bb HB1.out hb2)
        go_wp2_with fail
        go_ret
        exact ⟨rfl, HB2.out⟩
  · by_cases k2 : k = 2
    · subst k2
      have hv := HV.out
      unfold tokB at hv
      simp only [show ¬ ((2 : Int) = 1) by decide, if_false, if_true] at hv
      rw [HN.out] at hv
      cases q1 : nameL name.data.toList
      · rw [q1] at hv CN
        have HW := hid (show V = false from hv.symm)
        clear hv CA CX
        go_enter Try.func46, Try.ntmps46
        go_wp2_with fail
        refine (CN _).mono ?_
        rintro e w1 ⟨rfl, hb1⟩
        have HB1 := hid (bb HB0.out hb1)
        go_wp2_with fail
        go_ret
        exact ⟨by rw [HW.out]; rfl, HB1.out⟩
      · rw [q1, Bool.true_and] at hv
        rw [q1] at CN
        cases q2 : decide (n = 0)
        · rw [q2] at hv E3
          have HW := hid (show V = false from hv.symm)
          clear hv CX CA
          go_enter Try.func46, Try.ntmps46
          go_wp2_with fail
          refine (CN _).mono ?_
          rintro e w1 ⟨rfl, hb1⟩
          obtain ⟨hc, hf⟩ := bcell hb1
          have HB1 := hid (bb HB0.out hb1)
          go_wp2_with fail
          go_ret
          exact ⟨by rw [HW.out]; rfl, HB1.out⟩
        · rw [q2, Bool.true_and] at hv
          rw [q2] at E3
          rw [hv] at E2
          clear hv CX CA
          go_enter Try.func46, Try.ntmps46
          go_wp2_with fail
          refine (CN _).mono ?_
          rintro e w1 ⟨rfl, hb1⟩
          obtain ⟨hc, hf⟩ := bcell hb1
          have HB1 := hid (bb HB0.out hb1)
          go_wp2_with fail
          go_ret
          exact ⟨rfl, HB1.out⟩
    · by_cases k3 : k = 3
      · subst k3
        have hv := HV.out
        unfold tokB at hv
        simp only [show ¬ ((3 : Int) = 1) by decide, show ¬ ((3 : Int) = 2) by decide, if_false, if_true] at hv
        rw [HN.out] at hv
        cases q1 : decide (name.size = 0)
        · rw [q1] at hv E1
          have HW := hid (show V = false from hv.symm)
          clear hv CA CX CN
          go_enter Try.func46, Try.ntmps46
          go_wp2_with fail
          go_ret
          exact ⟨by rw [HW.out]; rfl, HB0.out⟩
        · rw [q1, Bool.true_and] at hv
          rw [q1] at E1
          cases q2 : decide (n = 0)
          · rw [q2] at hv E3
            have HW := hid (show V = false from hv.symm)
            clear hv CX CA CN
            go_enter Try.func46, Try.ntmps46
            go_wp2_with fail
            go_ret
            exact ⟨by rw [HW.out]; rfl, HB0.out⟩
          · rw [q2, Bool.true_and] at hv
            rw [q2] at E3
            cases q3 : decide (text.size = 0)
            · rw [q3] at E2
              have q3' : ¬ text.size = 0 := of_decide_eq_false q3
              have e1 : textB text = (decide (text.size ≤ 60) && plainL text.data.toList) := by
                unfold textB
                rw [Bool.and_comm]
                congr 1
                rw [decide_eq_decide]
                omega
              rw [e1] at hv
              rw [hv] at CX
              clear hv CA CN e1
              go_enter Try.func46, Try.ntmps46
              go_wp2_with fail
              refine (CX _).mono ?_
              rintro e w1 ⟨rfl, rfl⟩
              go_wp2_with fail
              go_ret
              exact ⟨rfl, HB0.out⟩
            · rw [q3] at E2
              have q3' : text.size = 0 := of_decide_eq_true q3
              have e1 : textB text = false := by
                unfold textB
                rw [decide_eq_false (by omega), Bool.and_false]
              rw [e1] at hv
              have HW := hid hv
              clear hv CA CN CX e1
              go_enter Try.func46, Try.ntmps46
              go_wp2_with fail
              go_ret
              exact ⟨by rw [← HW.out]; rfl, HB0.out⟩
      · have hv := HV.out
        unfold tokB at hv
        simp only [k1, k2, k3, if_false] at hv
        have HW := hid (show V = false from hv.symm)
        have d1 : (k == 1) = false := by simpa using k1
        have d2 : (k == 2) = false := by simpa using k2
        have d3 : (k == 3) = false := by simpa using k3
        clear hv CA CX CN
        go_enter Try.func46, Try.ntmps46
        go_wp2_with fail
        go_ret
        exact ⟨by rw [HW.out]; rfl, HB0.out⟩

end Go.Proofs.Ytkejmifkjgpdjaa

namespace Go.Proofs.Ytkejmifkjgpdjaa
open Go.RowKit
set_option linter.unusedVariables false
set_option linter.unusedSimpArgs false

set_option maxHeartbeats 1000000 in
theorem cIsText (k : Int) (nm : ByteArray) (a : Option Addr) (n cap : Nat) (tx : ByteArray) (w : World) (hz : nm.size ≤ 1048576) :
    Calls Try.prog 42 #[.agg #[.int .i64 k, .string nm, .slice a n cap, .string tx]] w fun e w' => e = .returned (.bool (decide (nm.size = 0))) ∧ Below w.heap.size w w' := by
  have HB0 := hid ((Below.refl w.heap.size w).alloc (Nat.le_refl _) (.cells #[.int .i64 k, .string nm, .slice a n cap, .string tx] 50))
  have E := empty_is nm
  generalize decide (nm.size = 0) = D at *
  go_enter Try.func42, Try.ntmps42
  go_wp2
  go_ret
  exact ⟨rfl, HB0.out⟩

theorem heap_two (w : World) (o1 o2 : Obj) : ((w.alloc o1).alloc o2).heap[w.heap.size + 1]? = some o2 := by
  have h := heap_alloc_new (w.alloc o1) o2
  rw [show (w.alloc o1).heap.size = w.heap.size + 1 by simp] at h
  exact h

set_option maxHeartbeats 2000000 in
theorem cTokenOf (t : Tk) (a : Option Addr) (cap : Nat) (w : World) (hz : TkSz 1048576 t) :
    Calls Try.prog 47 #[tkV t a cap] w fun e w' => e = .returned (tkV (tokOfN t) a cap) ∧ Below w.heap.size w w' := by
  obtain ⟨k, nm, l, tx⟩ := t
  have C := hid (fun wx => cIsText k nm a l.length cap tx wx hz.1)
  have HB0 := hid (((Below.refl w.heap.size w).alloc (Nat.le_refl _) (.cells #[.int .i64 k, .string nm, .slice a l.length cap, .string tx] 50)).alloc (by simp) (.cells #[.int .i64 0, .string ⟨#[]⟩, .slice none 0 0, .string ⟨#[]⟩] 76))
  have M0 := hid (blk_alloc (heap_alloc_new w (.cells #[.int .i64 k, .string nm, .slice a l.length cap, .string tx] 50)) (.cells #[.int .i64 0, .string ⟨#[]⟩, .slice none 0 0, .string ⟨#[]⟩] 76))
  have M1 := hid (heap_two w (.cells #[.int .i64 k, .string nm, .slice a l.length cap, .string tx] 50) (.cells #[.int .i64 0, .string ⟨#[]⟩, .slice none 0 0, .string ⟨#[]⟩] 76))
  simp only [tkV]
  by_cases q : nm.size = 0
  · have e1 : tokOfN ⟨k, nm, l, tx⟩ = ⟨3, ⟨#[]⟩, l, tx⟩ := by unfold tokOfN; exact if_pos q
    rw [e1]
    rw [decide_eq_true q] at C
    generalize l.length = n at *
    clear e1 hz
    go_enter Try.func47, Try.ntmps47
    go_wp2_with fail
    refine (C.out _).mono ?_
    rintro e w1 ⟨rfl, hb1⟩
    have HB1 := hid (bb HB0.out hb1)
    obtain ⟨⟨x0, x1, x2, x3⟩, _⟩ := box4 (blk_below M0.out hb1)
    obtain ⟨⟨y0, y1, y2, y3⟩, f0, f1, f2, f3⟩ := box4 (blk_below M1.out hb1)
    clear hb1
    go_wp2_with fail
    refine bodyPost_ret (v := .agg #[.int .i64 3, .string ⟨#[]⟩, .slice a n cap, .string tx]) (by simp [results, Try.results47, go_sem, y0, y1, y2, y3]) rfl ⟨rfl, ?_⟩
    iterate 4 refine Below.setCell ?_ (Nat.le_succ _) _
    exact HB1.out
  · have e1 : tokOfN ⟨k, nm, l, tx⟩ = ⟨1, nm, l, tx⟩ := by unfold tokOfN; exact if_neg q
    rw [e1]
    rw [decide_eq_false q] at C
    generalize l.length = n at *
    clear e1 hz
    go_enter Try.func47, Try.ntmps47
    go_wp2_with fail
    refine (C.out _).mono ?_
    rintro e w1 ⟨rfl, hb1⟩
    have HB1 := hid (bb HB0.out hb1)
    obtain ⟨⟨x0, x1, x2, x3⟩, _⟩ := box4 (blk_below M0.out hb1)
    obtain ⟨⟨y0, y1, y2, y3⟩, f0, f1, f2, f3⟩ := box4 (blk_below M1.out hb1)
    clear hb1
    go_wp2_with fail
    refine bodyPost_ret (v := .agg #[.int .i64 1, .string nm, .slice a n cap, .string tx]) (by simp [results, Try.results47, go_sem, y0, y1, y2, y3]) rfl ⟨rfl, ?_⟩
    iterate 4 refine Below.setCell ?_ (Nat.le_succ _) _
    exact HB1.out

set_option maxRecDepth 8000 in
set_option maxHeartbeats 4000000 in
theorem cBeside (a : Option Addr) (cap : Nat) (ts : List Tk) (i : Nat) (w : World) (hR : TkRow w a ts) (hi : i < ts.length) (hn : ts.length ≤ 1048576) (hz : TksSz 1048576 ts) :
    Calls Try.prog 48 #[.slice a ts.length cap, .int .i64 (i : Int)] w fun e w' => e = .returned (.bool (twinB ts i)) ∧ Below w.heap.size w w' := by
  obtain ⟨V, hV⟩ : ∃ V, twinB ts i = V := ⟨_, rfl⟩
  have HV := hid hV
  rw [hV]
  have HF : Hid (¬ TwinAt ts i → V = false) := fun h => by rw [← HV.out]; exact twinB_f h
  have HT : Hid (TwinAt ts i → V = true) := fun h => by rw [← HV.out]; exact twinB_t h
  clear hV HV
  by_cases h0 : i = 0
  case pos =>
    have HW := hid (HF.out (fun h => by obtain ⟨_, h', _⟩ := h; omega))
    subst h0
    have HNB := hid (bw_any w)
    clear hR hz
    generalize ts.length = n at *
    go_enter Try.func48, Try.ntmps48
    go_wp2_with fail
    haveI := HNB.out
    refine wp_region_below (by kernel_rfl) (by kernel_rfl) (Below.refl w.heap.size w) ?_
    repeat (go_big_quiet_step (fail))
    refine wpQuiet_nil ?_
    intro w2 hw'
    obtain ⟨⟨wx, hb2⟩, hw''⟩ := hw'
    subst hw''
    have HB2 := hid hb2
    clear hb2 this HNB
    go_wp2_with fail
    go_ret
    exact ⟨by rw [HW.out]; rfl, HB2.out⟩
  obtain ⟨j, hij⟩ : ∃ j, i = j + 1 := ⟨i - 1, by omega⟩
  have hjl : j < ts.length := by omega
  have hd : decide (0 < i) = true := decide_eq_true (by omega)
  have hj : (i : Int) - 1 = (j : Int) := by omega
  have hji : ¬ (i : Int) < 1 := by omega
  obtain ⟨b, o, aa, ca, rfl, hb, c0, c1, c2, c3, cr⟩ := hR i hi
  obtain ⟨b', o', aj, cj, e', _, k0, k1, k2, k3, kr⟩ := hR j hjl
  obtain ⟨rfl, rfl⟩ : b = b' ∧ o = o' := by cases e'; exact ⟨rfl, rfl⟩
  have HTI := hid (show TwinAt ts i ↔ ts[i].name.size = 0 ∧ ts[j].name.size = 0 ∧ ts[j].kind = ts[i].kind by
    subst hij
    constructor
    · rintro ⟨h1, h2, h3, h4, h5⟩
      exact ⟨h3, h4, h5⟩
    · rintro ⟨h3, h4, h5⟩
      exact ⟨hi, by omega, h3, h4, h5⟩)
  obtain ⟨d0, d1, d2, d3⟩ := quad_bw hb c0 c1 c2 c3
  obtain ⟨j0, j1, j2, j3⟩ := quad_bw hb k0 k1 k2 k3
  have CI := hid (fun p : BW w => cIsText ts[i].kind ts[i].name aa ts[i].attrs.length ca ts[i].text p.w (hz _ (List.getElem_mem hi)).1)
  have CJ := hid (fun p : BW w => cIsText ts[j].kind ts[j].name aj ts[j].attrs.length cj ts[j].text p.w (hz _ (List.getElem_mem hjl)).1)
  have z1 := (hz _ (List.getElem_mem hi)).1
  have z2 := (hz _ (List.getElem_mem hjl)).1
  have hin : (i : Int) < (ts.length : Int) := by omega
  have hjn : (j : Int) < (ts.length : Int) := by omega
  have HIJ := hid hij
  have HNB := hid (bw_any w)
  clear e' c0 c1 c2 c3 k0 k1 k2 k3 hR hz hij h0 cr kr
  generalize ts[i].kind = ki at *
  generalize ts[i].name = ni at *
  generalize ts[i].attrs.length = li at *
  generalize ts[i].text = xi at *
  generalize ts[j].kind = kj at *
  generalize ts[j].name = nj at *
  generalize ts[j].attrs.length = lj at *
  generalize ts[j].text = xj at *
  generalize ts.length = n at *
  by_cases q1 : ni.size = 0
  case neg =>
    have HW := hid (HF.out (fun h => q1 (HTI.out.1 h).1))
    rw [decide_eq_false q1] at CI
    clear q1 HTI
    go_enter Try.func48, Try.ntmps48
    go_wp2_with fail
    haveI := HNB.out
    refine wp_region_below (by kernel_rfl) (by kernel_rfl) (Below.refl w.heap.size w) ?_
    repeat (go_big_quiet_step ((go_at_call 42; first | exact calls_bw _ (CI.out _) | exact calls_bw _ (CJ.out _))))
    refine wpQuiet_nil ?_
    intro w2 hw'
    obtain ⟨⟨wx, hb2⟩, hw''⟩ := hw'
    subst hw''
    have HB2 := hid hb2
    clear hb2 this HNB
    go_wp2_with fail
    go_ret
    exact ⟨by rw [HW.out]; rfl, HB2.out⟩
  by_cases q2 : nj.size = 0
  case neg =>
    have HW := hid (HF.out (fun h => q2 (HTI.out.1 h).2.1))
    rw [decide_eq_true q1] at CI
    rw [decide_eq_false q2] at CJ
    clear q1 q2 HTI
    go_enter Try.func48, Try.ntmps48
    go_wp2_with fail
    haveI := HNB.out
    refine wp_region_below (by kernel_rfl) (by kernel_rfl) (Below.refl w.heap.size w) ?_
    repeat (go_big_quiet_step ((go_at_call 42; first | exact calls_bw _ (CI.out _) | exact calls_bw _ (CJ.out _))))
    refine wpQuiet_nil ?_
    intro w2 hw'
    obtain ⟨⟨wx, hb2⟩, hw''⟩ := hw'
    subst hw''
    have HB2 := hid hb2
    clear hb2 this HNB
    go_wp2_with fail
    go_ret
    exact ⟨by rw [HW.out]; rfl, HB2.out⟩
  by_cases q3 : kj = ki
  case neg =>
    have HW := hid (HF.out (fun h => q3 (HTI.out.1 h).2.2))
    have hq3 : (ki == kj) = false := by simp; omega
    rw [decide_eq_true q1] at CI
    rw [decide_eq_true q2] at CJ
    clear q1 q2 q3 HTI
    go_enter Try.func48, Try.ntmps48
    go_wp2_with fail
    haveI := HNB.out
    refine wp_region_below (by kernel_rfl) (by kernel_rfl) (Below.refl w.heap.size w) ?_
    repeat (go_big_quiet_step ((go_at_call 42; first | exact calls_bw _ (CI.out _) | exact calls_bw _ (CJ.out _))))
    refine wpQuiet_nil ?_
    intro w2 hw'
    obtain ⟨⟨wx, hb2⟩, hw''⟩ := hw'
    subst hw''
    have HB2 := hid hb2
    clear hb2 this HNB
    go_wp2_with fail
    go_ret
    exact ⟨by rw [HW.out]; rfl, HB2.out⟩
  case pos =>
    have HW := hid (HT.out (HTI.out.2 ⟨q1, q2, q3⟩))
    have hq3 : (ki == kj) = true := by simp; omega
    rw [decide_eq_true q1] at CI
    rw [decide_eq_true q2] at CJ
    clear q1 q2 q3 HTI
    go_enter Try.func48, Try.ntmps48
    go_wp2_with fail
    haveI := HNB.out
    refine wp_region_below (by kernel_rfl) (by kernel_rfl) (Below.refl w.heap.size w) ?_
    repeat (go_big_quiet_step ((go_at_call 42; first | exact calls_bw _ (CI.out _) | exact calls_bw _ (CJ.out _))))
    refine wpQuiet_nil ?_
    intro w2 hw'
    obtain ⟨⟨wx, hb2⟩, hw''⟩ := hw'
    subst hw''
    have HB2 := hid hb2
    clear hb2 this HNB
    go_wp2_with fail
    go_ret
    exact ⟨by rw [HW.out]; rfl, HB2.out⟩

end Go.Proofs.Ytkejmifkjgpdjaa
