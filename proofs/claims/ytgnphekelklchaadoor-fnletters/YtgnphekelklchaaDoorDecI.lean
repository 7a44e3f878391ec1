/- Contract of the program's FromLetters: it answers what fromL says. -/
import Derived.Test.YtgnphekelklchaaDoorWhole
import Derived.Test.YtgnphekelklchaaDoorEncI
namespace Go.Proofs.YtgnphekelklchaaDoor
open Go.RowKit
set_option linter.unusedVariables false
set_option linter.unusedSimpArgs false

theorem trim_len (l : List UInt8) (c : UInt8) : (Lib.trimRightB l c).length ≤ l.length := by
  unfold Lib.trimRightB
  rw [List.length_reverse]
  have := (List.dropWhile_sublist (fun x => x == c) (l := l.reverse)).length_le
  simpa using this

theorem whole_len {l x : List UInt8} (h : wholeL l = some x) : x.length ≤ l.length := by
  unfold wholeL at h
  split at h
  · cases h
    exact stD_len l
  · cases h

theorem bytes_eq (a b : List UInt8) (s : ByteArray) (h : s.data.toList = b) : ((⟨a.toArray⟩ : ByteArray).toList == s.toList) = decide (a = b) := by
  rw [tl, tl, h]
  show (a.toArray.toList == b) = _
  rw [List.toList_toArray, Bool.eq_iff_iff]
  simp

theorem from_none {l : List UInt8} (h : wholeL (Lib.trimRightB l 61) = none) : fromL l = none := by
  rw [← implL_eq]
  unfold implL
  rw [h]

theorem from_some {l x : List UInt8} (h : wholeL (Lib.trimRightB l 61) = some x) (e : toL x = l) : fromL l = some x := (fromL_iff l x).2 e

theorem from_other {l x : List UInt8} (h : wholeL (Lib.trimRightB l 61) = some x) (e : ¬ toL x = l) : fromL l = none := by
  rw [← implL_eq]
  unfold implL
  rw [h]
  simp [e]

set_option maxHeartbeats 2000000 in
theorem cDecI (s : ByteArray) (w : World) (h0 : s.size ≤ 1048576) :
    Calls Tryd.prog 9 #[.string s] w fun e w' => e = .returned (.tuple #[.string ⟨(outL (fromL s.data.toList)).toArray⟩, .bool (fromL s.data.toList).isSome]) ∧ Below w.heap.size w w' := by
  obtain ⟨t, ht⟩ : ∃ t : ByteArray, (⟨(Lib.trimRightB s.data.toList 61).toArray⟩ : ByteArray) = t := ⟨_, rfl⟩
  have htl : t.data.toList = Lib.trimRightB s.data.toList 61 := by rw [← ht]
  have hts : t.size ≤ 1048576 := by
    have h1 := trim_len s.data.toList 61
    rw [← htl, ← sz t, ← sz s] at h1
    omega
  have CT := fun w => Tryd.strings_TrimRight_one s 61 (by decide) w (by omega)
  rw [ht] at CT
  have CW := fun w => cWhole t w hts
  cases hr : wholeL t.data.toList with
  | none =>
    have HN : Hid (fromL s.data.toList = none) := from_none (by rw [← htl]; exact hr)
    rw [hr] at CW
    clear hr ht htl
    go_enter Tryd.func9, Tryd.ntmps9
    go_wp2_with (first
      | (go_at_call 28; refine (CT _).mono ?_; rintro e w1 ⟨rfl, rfl⟩)
      | (go_at_call 27; refine (CW _).mono ?_; rintro e w2 ⟨rfl, hb2⟩))
    go_ret2
    exact ⟨by rw [HN.out]; rfl, hb2⟩
  | some x =>
    rw [hr] at CW
    obtain ⟨X, hX⟩ : ∃ X : ByteArray, (⟨x.toArray⟩ : ByteArray) = X := ⟨_, rfl⟩
    have hXl : X.data.toList = x := by rw [← hX]
    have hXs : X.size ≤ 1048576 := by
      have h1 := whole_len hr
      rw [← hXl, ← sz t, ← sz X] at h1
      omega
    have CE := fun w => cEncI X w hXs
    rw [hXl] at CE
    have CW' : ∀ w, Calls Tryd.prog 27 #[.string t] w fun e w' => e = .returned (.tuple #[.string X, .bool true]) ∧ Below w.heap.size w w' := fun w => by rw [← hX]; exact CW w
    have hq := bytes_eq (toL x) s.data.toList s rfl
    rw [htl] at hr
    obtain ⟨E, hE⟩ : ∃ E : ByteArray, (⟨(toL x).toArray⟩ : ByteArray) = E := ⟨_, rfl⟩
    rw [hE] at CE hq
    by_cases he : toL x = s.data.toList
    · have HN : Hid (fromL s.data.toList = some X.data.toList) := by show fromL _ = _; rw [hXl]; exact from_some hr he
      rw [decide_eq_true he] at hq
      clear hr he hE CW hX hXl ht htl
      go_enter Tryd.func9, Tryd.ntmps9
      go_wp2_with (first
        | (go_at_call 28; refine (CT _).mono ?_; rintro e w1 ⟨rfl, rfl⟩)
        | (go_at_call 27; refine (CW' _).mono ?_; rintro e w2 ⟨rfl, hb2⟩)
        | (go_at_call 7; refine (CE _).mono ?_; rintro e w3 ⟨rfl, hb3⟩))
      go_ret2
      exact ⟨by rw [HN.out]; rfl, hb2.trans (hb3.mono hb2.size)⟩
    · have HN : Hid (fromL s.data.toList = none) := from_other hr he
      rw [decide_eq_false he] at hq
      clear hr he hE CW hX hXl ht htl
      go_enter Tryd.func9, Tryd.ntmps9
      go_wp2_with (first
        | (go_at_call 28; refine (CT _).mono ?_; rintro e w1 ⟨rfl, rfl⟩)
        | (go_at_call 27; refine (CW' _).mono ?_; rintro e w2 ⟨rfl, hb2⟩)
        | (go_at_call 7; refine (CE _).mono ?_; rintro e w3 ⟨rfl, hb3⟩))
      go_ret2
      exact ⟨by rw [HN.out]; rfl, hb2.trans (hb3.mono hb2.size)⟩

end Go.Proofs.YtgnphekelklchaaDoor
