/- Contract of the program's numeral with noughts ahead, over the library's FormatInt and Repeat. -/
import Derived.Test.YtidkbpcceoocaaaDoorHPad
import Derived.Lib.AppendIntMem
namespace Go.Proofs.YtidkbpcceoocaaaDoor
open Go.RowKit
set_option linter.unusedVariables false
set_option linter.unusedSimpArgs false

def powName : String := Rows.fnExactDigitsRow.laid.map (·.1) |>.getD 2 ""

/-- The library's table of tens holds what the text lays in it. -/
def Laid (w : World) : Prop := Lib.TabIs Tryd.prog w powName .u64 Lib.pow10Tab

theorem powGlobal : ∃ g, Tryd.prog.globalNamed powName = some g := ⟨0, by kernel_rfl⟩

theorem Laid.below {w w' : World} (h2 : Laid w) (hb : Below w.heap.size w w') : Laid w' := by
  obtain ⟨g, hg⟩ := powGlobal
  unfold Laid Lib.TabIs World.var? at h2 ⊢
  rw [hg] at h2 ⊢
  simp only [Option.bind_some] at h2 ⊢
  have hlt : g < w.heap.size := by
    rcases Nat.lt_or_ge g w.heap.size with h' | h'
    · exact h'
    · rw [Array.getElem?_eq_none h'] at h2
      cases h2
  rw [hb.block g hlt]
  exact h2

theorem pad_str (l : List UInt8) (c : Nat) : (⟨(Lib.repeatL [48] c).toArray⟩ : ByteArray) ++ ⟨l.toArray⟩ = ⟨(List.replicate c 48 ++ l).toArray⟩ := by
  have e : Lib.repeatL [48] c = List.replicate c 48 := by
    induction c with
    | zero => rfl
    | succ c ih => rw [Lib.repeatL, ih, List.replicate_succ]; rfl
  rw [e]
  apply ByteArray.ext
  apply Array.toList_inj.1
  simp [ByteArray.data_append]

set_option maxHeartbeats 2000000 in
theorem cPadI (n wd : Nat) (w : World) (hn : n < 9223372036854775808) (hw : wd ≤ 100) (hL : Laid w) :
    Calls Tryd.prog 28 #[.int .i64 n, .int .i64 wd] w fun e w' => e = .returned (.string ⟨(padL n wd).toArray⟩) ∧ Below w.heap.size w w' := by
  have hl := dec_le n hn
  have C := Tryd.strconv_FormatInt_10 n (by omega) (by omega) w hL
  rw [show Lib.itoa (n : Int) = Lib.decDigits n by unfold Lib.itoa; rw [if_neg (by omega)]; simp] at C
  unfold padL
  obtain ⟨l, hle⟩ : ∃ l, Lib.decDigits n = l := ⟨_, rfl⟩
  rw [hle] at C hl ⊢
  clear hle hn
  obtain ⟨b, hbe⟩ : ∃ b : ByteArray, (⟨l.toArray⟩ : ByteArray) = b := ⟨_, rfl⟩
  have hs : b.size = l.length := by rw [← hbe, size_mk]
  have hcat := pad_str l (wd - l.length)
  obtain ⟨r, hr⟩ : ∃ r : ByteArray, (⟨(Lib.repeatL [48] (wd - l.length)).toArray⟩ : ByteArray) = r := ⟨_, rfl⟩
  obtain ⟨o, ho⟩ : ∃ o : ByteArray, (⟨(List.replicate (wd - l.length) 48 ++ l).toArray⟩ : ByteArray) = o := ⟨_, rfl⟩
  have hrs : r.size = wd - l.length := by rw [← hr, size_mk, Lib.repeatL_length]; simp
  have D := fun w => Tryd.strings_Repeat ⟨#[48]⟩ (wd - l.length) w (by omega) (by show 1 * _ ≤ _; omega)
  rw [show (⟨#[48]⟩ : ByteArray).data.toList = [48] from rfl, hr] at D
  rw [hbe, hr, ho] at hcat
  rw [hbe] at C
  rw [ho]
  obtain ⟨c, hc⟩ : ∃ c, wd - l.length = c := ⟨_, rfl⟩
  rw [hc] at D hrs
  have hbs : b.size ≤ 19 := by omega
  have hm : max 0 ((wd : Int) - (b.size : Int)) = (c : Int) := by omega
  have HS : Hid (b.size = l.length) := hs
  have HC : Hid (wd - l.length = c) := hc
  have hcs : c ≤ 100 := by omega
  have hwr : IntKind.i64.wrap ((wd : Int) - (b.size : Int)) = (wd : Int) - (b.size : Int) := IntWalk.i64_in _ (by omega)
  clear hbe hr ho hs hc hL
  go_enter Tryd.func28, Tryd.ntmps28
  go_wp2_with fail
  refine C.mono ?_
  rintro e w1 ⟨rfl, k, os, hw1⟩
  have hb1 : Below w.heap.size w w1 := by rw [hw1]; exact Lib.below_grow _ _ (Nat.le_refl _) _ _
  clear hw1
  go_wp2_with fail
  refine (D _).mono ?_
  rintro e w2 ⟨rfl, hb2⟩
  go_wp2_with fail
  go_ret
  exact ⟨rfl, hb1.trans (hb2.mono hb1.size)⟩

end Go.Proofs.YtidkbpcceoocaaaDoor
