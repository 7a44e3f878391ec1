/- Contracts of the specification's l9Element, Meaning, l9Known, Known. -/
import Derived.Test.YtlghhemmmjahnaaXMean
namespace Go.Proofs.Ytlghhemmmjahnaa
open Go.RowKit
set_option linter.unusedVariables false
set_option linter.unusedSimpArgs false

/-- The name of the one at x. -/
def nameI (ts : List Tk) (k : Nat) : ByteArray := match ts[k]? with | some t => t.name | none => ⟨#[]⟩

theorem nameI_at {ts : List Tk} {k : Nat} (h : k < ts.length) : nameI ts k = ts[k].name := by unfold nameI; rw [List.getElem?_eq_getElem h]

noncomputable def elemB (ts : List Tk) (x : Int) : Bool := hasB ts x && !decide ((nameI ts x.toNat).size = 0)

theorem elemB_t {ts : List Tk} {x : Int} (h : elemB ts x = true) : TreeP ts ∧ ∃ k : Nat, x = k ∧ k < ts.length := by
  unfold elemB at h
  rw [Bool.and_eq_true] at h
  exact hasB_t h.1

noncomputable def meanI (ts : List Tk) (x : Int) (p : ByteArray) : Option ByteArray := if elemB ts x then meanF ts x.toNat p else none

noncomputable def knownN (ts : List Tk) (k : Nat) (l m : ByteArray) : Bool := open Classical in (meanF ts k (preS (nameI ts k))).isSome && decide (locS (nameI ts k) = l) && decide ((meanF ts k (preS (nameI ts k))).getD ⟨#[]⟩ = m)

noncomputable def knownI (ts : List Tk) (x : Int) (l m : ByteArray) : Bool := elemB ts x && knownN ts x.toNat l m

theorem name_row {w : World} {a : Option Addr} {ts : List Tk} (h : TkRow w a ts) {k : Nat} (hk : k < ts.length) : ∃ b o, a = some ⟨b, o, none⟩ ∧ w.cell? ⟨b, o + k * 4 + 1, none⟩ = some (.string (nameI ts k)) := by
  obtain ⟨b, o, e, _, h1⟩ := h.kindAt k hk
  exact ⟨b, o, e, by rw [nameI_at hk]; exact h1⟩

theorem name_sz {ts : List Tk} (hz : TksSz 1048576 ts) {k : Nat} (hk : k < ts.length) : (nameI ts k).size ≤ 1048576 := by
  rw [nameI_at hk]
  exact (hz _ (List.getElem_mem hk)).1

set_option maxHeartbeats 2000000 in
theorem c_spec_l9Element (a : Option Addr) (cap : Nat) (ts : List Tk) (x : Int) (w : World) (hR : TkRow w a ts) (hn : ts.length ≤ 1048576) (hz : TksSz 1048576 ts) :
    Calls Try.prog 26 #[.slice a ts.length cap, .int .i64 x] w fun e w' => e = .returned (.bool (elemB ts x)) ∧ Below w.heap.size w w' := by
  have C := hid (cHasS a cap ts x w hR hn hz)
  have HR := hid hR
  clear hR
  cases hh : hasB ts x with
  | false =>
    have HE := hid (show elemB ts x = false by unfold elemB; rw [hh]; rfl)
    rw [HE.out]
    rw [hh] at C
    clear hh HE HR hz
    generalize ts.length = n at *
    go_enter Try.func26, Try.ntmps26
    go_wp2_with fail
    refine C.out.mono ?_
    rintro e w1 ⟨rfl, hb1⟩
    have HB1 := hid hb1
    clear hb1 C
    go_wp2_with fail
    go_ret
    exact ⟨rfl, HB1.out⟩
  | true =>
    obtain ⟨hT, k, rfl, hk⟩ := hasB_t hh
    have HE := hid (show elemB ts (k : Int) = !decide ((nameI ts k).size = 0) by unfold elemB; rw [hh]; rfl)
    rw [HE.out]
    rw [hh] at C
    have HROW := hid (fun wx (hb : Below w.heap.size w wx) => name_row (HR.out.below hb) hk)
    obtain ⟨b, o, ea, -⟩ := name_row HR.out hk
    subst ea
    have E := empty_is (nameI ts k)
    have hkn : (k : Int) < (ts.length : Int) := by omega
    clear hh HE HR hz hT
    generalize ts.length = n at *
    generalize nameI ts k = N at *
    generalize decide (N.size = 0) = D at *
    go_enter Try.func26, Try.ntmps26
    go_wp2_with fail
    refine C.out.mono ?_
    rintro e w1 ⟨rfl, hb1⟩
    obtain ⟨b', o', e', c1⟩ := HROW.out _ hb1
    obtain ⟨rfl, rfl⟩ : b = b' ∧ o = o' := by cases e'; exact ⟨rfl, rfl⟩
    have HB1 := hid hb1
    clear hb1 C e' HROW
    go_wp2_with fail
    go_ret
    exact ⟨rfl, HB1.out⟩

set_option maxHeartbeats 2000000 in
theorem cMeaningS (a : Option Addr) (cap : Nat) (ts : List Tk) (x : Int) (p : ByteArray) (w : World) (hR : TkRow w a ts) (hn : ts.length ≤ 1048576) (hz : TksSz 1048576 ts) (hp : p.size ≤ 1048576) :
    Calls Try.prog 12 #[.slice a ts.length cap, .int .i64 x, .string p] w fun e w' => e = .returned (.tuple #[.string ((meanI ts x p).getD ⟨#[]⟩), .bool (meanI ts x p).isSome]) ∧ Below w.heap.size w w' := by
  have C := hid (c_spec_l9Element a cap ts x w hR hn hz)
  cases hh : elemB ts x with
  | false =>
    have HE := hid (show meanI ts x p = none by unfold meanI; rw [hh]; rfl)
    rw [HE.out]
    rw [hh] at C
    clear hh HE hR hz
    generalize ts.length = n at *
    go_enter Try.func12, Try.ntmps12
    go_wp2_with fail
    refine C.out.mono ?_
    rintro e w1 ⟨rfl, hb1⟩
    have HB1 := hid hb1
    clear hb1 C
    go_wp2_with fail
    go_ret2
    exact ⟨rfl, HB1.out⟩
  | true =>
    obtain ⟨hT, k, rfl, hk⟩ := elemB_t hh
    have HE := hid (show meanI ts (k : Int) p = meanF ts k p by unfold meanI; rw [hh]; rfl)
    rw [HE.out]
    rw [hh] at C
    have CM := hid (fun wx (hb : Below w.heap.size w wx) => c_spec_l9Meaning a cap ts k p wx (hR.below hb) hT hk hn hz hp)
    clear hh HE hR hz hT hk
    generalize meanF ts k p = V at *
    generalize ts.length = n at *
    go_enter Try.func12, Try.ntmps12
    go_wp2_with fail
    refine C.out.mono ?_
    rintro e w1 ⟨rfl, hb1⟩
    have CM1 := hid (CM.out _ hb1)
    have HB1 := hid hb1
    clear hb1 C CM
    go_wp2_with fail
    refine CM1.out.mono ?_
    rintro e w2 ⟨rfl, hb2⟩
    have HB2 := hid (bb HB1.out hb2)
    clear hb2 CM1
    go_wp2_with fail
    go_ret2
    exact ⟨rfl, HB2.out⟩

set_option maxHeartbeats 2000000 in
theorem c_spec_l9Known (a : Option Addr) (cap : Nat) (ts : List Tk) (k : Nat) (l m : ByteArray) (w : World) (hR : TkRow w a ts) (hT : TreeP ts) (hk : k < ts.length) (hn : ts.length ≤ 1048576) (hz : TksSz 1048576 ts) :
    Calls Try.prog 32 #[.slice a ts.length cap, .int .i64 (k : Int), .string l, .string m] w fun e w' => e = .returned (.bool (knownN ts k l m)) ∧ Below w.heap.size w w' := by
  obtain ⟨b, o, ea, c1⟩ := name_row hR hk
  subst ea
  have hzn := name_sz hz hk
  have CP := hid (cPartsX (nameI ts k) w hzn)
  have hps : (preS (nameI ts k)).size ≤ 1048576 := by
    unfold preS
    rw [size_mk]
    have e : (nameI ts k).data.toList.length = (nameI ts k).size := rfl
    unfold partP
    split
    · have := len_pre (nameI ts k).data.toList
      omega
    · simp
  have CM := hid (fun wx (hb : Below w.heap.size w wx) => c_spec_l9Meaning _ cap ts k (preS (nameI ts k)) wx (hR.below hb) hT hk hn hz hps)
  have h1 := str_beq (locS (nameI ts k)) l
  have h2 := str_beq ((meanF ts k (preS (nameI ts k))).getD ⟨#[]⟩) m
  have hkn : (k : Int) < (ts.length : Int) := by omega
  unfold knownN
  generalize (meanF ts k (preS (nameI ts k))).isSome = I at *
  generalize (meanF ts k (preS (nameI ts k))).getD ⟨#[]⟩ = G at *
  generalize preS (nameI ts k) = P at *
  generalize locS (nameI ts k) = L at *
  generalize nameI ts k = N at *
  clear hR hT hk hz hzn hps
  generalize ts.length = n at *
  have HX1 : ∃ B : Bool, decide (L = l) = B := ⟨_, rfl⟩
  obtain ⟨B1, hB1⟩ := HX1
  obtain ⟨B2, hB2⟩ : ∃ B : Bool, decide (G = m) = B := ⟨_, rfl⟩
  rw [hB1] at h1
  rw [hB2] at h2
  have HQ := hid (And.intro hB1 hB2)
  clear hB1 hB2
  go_enter Try.func32, Try.ntmps32
  go_wp2_with fail
  refine CP.out.mono ?_
  rintro e w1 ⟨rfl, hb1⟩
  have CM1 := hid (CM.out _ hb1)
  have HB1 := hid hb1
  clear hb1 CP CM c1
  go_wp2_with fail
  refine CM1.out.mono ?_
  rintro e w2 ⟨rfl, hb2⟩
  have HB2 := hid (bb HB1.out hb2)
  clear hb2 CM1
  cases I
  · go_wp2_with fail
    go_ret
    exact ⟨by simp, HB2.out⟩
  · cases B1
    · go_wp2_with fail
      go_ret
      exact ⟨by simp [HQ.out.1], HB2.out⟩
    · go_wp2_with fail
      go_ret
      exact ⟨by simp [HQ.out.1, HQ.out.2], HB2.out⟩

set_option maxHeartbeats 2000000 in
theorem cKnownS (a : Option Addr) (cap : Nat) (ts : List Tk) (x : Int) (l m : ByteArray) (w : World) (hR : TkRow w a ts) (hn : ts.length ≤ 1048576) (hz : TksSz 1048576 ts) :
    Calls Try.prog 14 #[.slice a ts.length cap, .int .i64 x, .string l, .string m] w fun e w' => e = .returned (.bool (knownI ts x l m)) ∧ Below w.heap.size w w' := by
  have C := hid (c_spec_l9Element a cap ts x w hR hn hz)
  cases hh : elemB ts x with
  | false =>
    have HE := hid (show knownI ts x l m = false by unfold knownI; rw [hh]; rfl)
    rw [HE.out]
    rw [hh] at C
    clear hh HE hR hz
    generalize ts.length = n at *
    go_enter Try.func14, Try.ntmps14
    go_wp2_with fail
    refine C.out.mono ?_
    rintro e w1 ⟨rfl, hb1⟩
    have HB1 := hid hb1
    clear hb1 C
    go_wp2_with fail
    go_ret
    exact ⟨rfl, HB1.out⟩
  | true =>
    obtain ⟨hT, k, rfl, hk⟩ := elemB_t hh
    have HE := hid (show knownI ts (k : Int) l m = knownN ts k l m by unfold knownI; rw [hh]; rfl)
    rw [HE.out]
    rw [hh] at C
    have CM := hid (fun wx (hb : Below w.heap.size w wx) => c_spec_l9Known a cap ts k l m wx (hR.below hb) hT hk hn hz)
    clear hh HE hR hz hT hk
    generalize knownN ts k l m = V at *
    generalize ts.length = n at *
    go_enter Try.func14, Try.ntmps14
    go_wp2_with fail
    refine C.out.mono ?_
    rintro e w1 ⟨rfl, hb1⟩
    have CM1 := hid (CM.out _ hb1)
    have HB1 := hid hb1
    clear hb1 C CM
    go_wp2_with fail
    refine CM1.out.mono ?_
    rintro e w2 ⟨rfl, hb2⟩
    have HB2 := hid (bb HB1.out hb2)
    clear hb2 CM1
    go_wp2_with fail
    go_ret
    exact ⟨rfl, HB2.out⟩

end Go.Proofs.Ytlghhemmmjahnaa
