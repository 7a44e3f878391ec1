/- Sent of the program and of the document: the letters of what a tree is shown as, or none where that is too long. -/
import Derived.Test.YtcjeodgfpnecgaaM19
import Derived.Test.YtcjeodgfpnecgaaM32
import Derived.Test.YtcjeodgfpnecgaaM34
import Derived.Test.YtcjeodgfpnecgaaM35
namespace Go.Proofs.Ytcjeodgfpnecgaa
open Go.RowKit
set_option linter.unusedVariables false
set_option linter.unusedSimpArgs false

noncomputable def sentN (ts : List Tk) : ByteArray := if 4000 < (shownN ts).size then ⟨#[]⟩ else ⟨(toL (shownN ts).data.toList).toArray⟩

theorem sentN_long {ts : List Tk} (h : 4000 < (shownN ts).size) : sentN ts = ⟨#[]⟩ := if_pos h
theorem sentN_short {ts : List Tk} (h : ¬ 4000 < (shownN ts).size) : sentN ts = ⟨(toL (shownN ts).data.toList).toArray⟩ := if_neg h

set_option maxRecDepth 8000 in
set_option maxHeartbeats 2000000 in
theorem cSentI (a : Option Addr) (cap : Nat) (ts : List Tk) (w : World) (hR : TkRow w a ts) (hn : ts.length ≤ 1048576) (hz : TksSz 1048576 ts) :
    Calls Try.prog 7 #[.slice a ts.length cap] w fun e w' => e = .returned (.string (sentN ts)) ∧ Below w.heap.size w w' := by
  have C := hid (cShowTreeI a cap ts w hR hn hz)
  have E := hid (fun (wx : World) (h : (shownN ts).size ≤ 1048576) => cEncI (shownN ts) wx h)
  by_cases hl : 4000 < (shownN ts).size
  · rw [sentN_long hl]
    obtain ⟨V, hV⟩ : ∃ V, shownN ts = V := ⟨_, rfl⟩
    rw [hV] at C hl
    clear E hV hR hz
    have hl1 : (4000 : Int) < (V.size : Int) := by omega
    generalize ts.length = n at *
    go_enter Try.func7, Try.ntmps7
    go_wp2_with fail
    refine C.out.mono ?_
    rintro e w1 ⟨rfl, hb1⟩
    have HB1 := hid hb1
    clear hb1
    go_wp2_with fail
    go_ret
    exact ⟨rfl, HB1.out⟩
  · rw [sentN_short hl]
    obtain ⟨V, hV⟩ : ∃ V, shownN ts = V := ⟨_, rfl⟩
    rw [hV] at C E hl ⊢
    obtain ⟨U, hU⟩ : ∃ U : ByteArray, (⟨(toL V.data.toList).toArray⟩ : ByteArray) = U := ⟨_, rfl⟩
    rw [hU] at E ⊢
    clear hV hR hz hU
    have hl0 : V.size ≤ 1048576 := by omega
    have hl1 : ¬ (4000 : Int) < (V.size : Int) := by omega
    generalize ts.length = n at *
    go_enter Try.func7, Try.ntmps7
    go_wp2_with fail
    refine C.out.mono ?_
    rintro e w1 ⟨rfl, hb1⟩
    have HB1 := hid hb1
    clear hb1
    go_wp2_with fail
    refine (E.out _ hl0).mono ?_
    rintro e w2 ⟨rfl, hb2⟩
    have HB2 := hid (bb HB1.out hb2)
    clear hb2
    go_wp2_with fail
    go_ret
    exact ⟨rfl, HB2.out⟩

set_option maxRecDepth 8000 in
set_option maxHeartbeats 2000000 in
theorem cSentS (a : Option Addr) (cap : Nat) (ts : List Tk) (w : World) (hR : TkRow w a ts) (hn : ts.length ≤ 1048576) (hz : TksSz 1048576 ts) :
    Calls Try.prog 5 #[.slice a ts.length cap] w fun e w' => e = .returned (.string (sentN ts)) ∧ Below w.heap.size w w' := by
  have C := hid (cShowTreeS a cap ts w hR hn hz)
  have E := hid (fun (wx : World) (h : (shownN ts).size ≤ 1048576) => cEncS (shownN ts) wx h)
  by_cases hl : 4000 < (shownN ts).size
  · rw [sentN_long hl]
    obtain ⟨V, hV⟩ : ∃ V, shownN ts = V := ⟨_, rfl⟩
    rw [hV] at C hl
    clear E hV hR hz
    have hl1 : (4000 : Int) < (V.size : Int) := by omega
    generalize ts.length = n at *
    go_enter Try.func5, Try.ntmps5
    go_wp2_with fail
    refine C.out.mono ?_
    rintro e w1 ⟨rfl, hb1⟩
    have HB1 := hid hb1
    clear hb1
    go_wp2_with fail
    go_ret
    exact ⟨rfl, HB1.out⟩
  · rw [sentN_short hl]
    obtain ⟨V, hV⟩ : ∃ V, shownN ts = V := ⟨_, rfl⟩
    rw [hV] at C E hl ⊢
    obtain ⟨U, hU⟩ : ∃ U : ByteArray, (⟨(toL V.data.toList).toArray⟩ : ByteArray) = U := ⟨_, rfl⟩
    rw [hU] at E ⊢
    clear hV hR hz hU
    have hl0 : V.size ≤ 1048576 := by omega
    have hl1 : ¬ (4000 : Int) < (V.size : Int) := by omega
    generalize ts.length = n at *
    go_enter Try.func5, Try.ntmps5
    go_wp2_with fail
    refine C.out.mono ?_
    rintro e w1 ⟨rfl, hb1⟩
    have HB1 := hid hb1
    clear hb1
    go_wp2_with fail
    refine (E.out _ hl0).mono ?_
    rintro e w2 ⟨rfl, hb2⟩
    have HB2 := hid (bb HB1.out hb2)
    clear hb2
    go_wp2_with fail
    go_ret
    exact ⟨rfl, HB2.out⟩

end Go.Proofs.Ytcjeodgfpnecgaa
