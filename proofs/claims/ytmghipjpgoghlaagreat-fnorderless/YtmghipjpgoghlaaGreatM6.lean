/- For the draw of attrs (l8DrawAttrs): what is known of the row and of the cursor while it runs. Plain mathematics of names: letters, a text split at colons, a name and its two parts. Contracts of impl: letters, the first colon, a name split, NameOk. -/
import Derived.Test.YtmghipjpgoghlaaGreatM4
import Derived.Test.YtmghipjpgoghlaaGreatM5
import Derived.Test.YtmghipjpgoghlaaGreatRows
import Derived.Test.YtmghipjpgoghlaaGreatM1
import Derived.Deep.CutRange
import Derived.Deep.RegionWith
import Derived.WalkKit
import Derived.Deep.QuietTactic
import Derived.BigQuiet
namespace Go.Proofs.YtmghipjpgoghlaaGreat
open Go.RowKit
set_option linter.unusedVariables false
set_option linter.unusedSimpArgs false

/-- Attrs of few signs, and no name of six. -/
def AtD (n : Nat) (l : List At) : Prop := ∀ x ∈ l, (x.name.size ≤ n ∧ x.value.size ≤ n) ∧ ¬ x.name.size = 6

def TkD (n : Nat) (t : Tk) : Prop := t.name.size ≤ n ∧ t.attrs.length ≤ n ∧ AtD n t.attrs ∧ t.text.size ≤ n

def TksD (n : Nat) (ts : List Tk) : Prop := ∀ t ∈ ts, TkD n t

/-- What the draw of attrs knows: the row so far, the cursor. -/
structure DSt (w0 : World) (a : Option Addr) (len cap b : Nat) (w wr : World) (v : Value) (l : List At) : Prop where
  own : wr.ownsRow w.heap.size 42 2 v l.length (atC l)
  sz : AtD 20 l
  cur : Cur w0 a len cap b wr
  gr : w.grownBy wr (some b)
  lt : b < w.heap.size
  le : w0.heap.size ≤ w.heap.size

section
variable {w0 : World} {a : Option Addr} {len cap b : Nat} {w wr : World} {v : Value} {l : List At}

theorem DSt.ne (h : DSt w0 a len cap b w wr v l) : v.ownBlock ≠ some b := fun e => by
  have := (h.own.lt b e).1
  have := h.lt
  omega

theorem DSt.draw {w1 : World} (h : DSt w0 a len cap b w wr v l) (hC : Cur w0 a len cap b w1) (g : wr.grownBy w1 (some b)) : DSt w0 a len cap b w w1 v l :=
  ⟨h.own.kept g (Or.inr h.ne), h.sz, hC, gtrans h.gr g, h.lt, h.le⟩

theorem DSt.alloc (h : DSt w0 a len cap b w wr v l) (o : Obj) : DSt w0 a len cap b w (wr.alloc o) v l :=
  h.draw (h.cur.alloc o) (World.grownBy_alloc wr o _)

theorem DSt.drewN (h : DSt w0 a len cap b w wr v l) (n : Nat) : DSt w0 a len cap b w (wr.drewN n) v l :=
  ⟨h.own, h.sz, h.cur.drewN n, g_drewN h.gr n, h.lt, h.le⟩

theorem g_later {w1 : World} {g : Nat} (h : w.grownBy wr (some b)) (k : wr.grownBy w1 (some g)) (hg : w.heap.size ≤ g) : w.grownBy w1 (some b) :=
  ⟨k.os.trans h.os, k.tape.trans h.tape, k.output.trans h.output, Nat.le_trans h.size k.size, fun i hi hr => (k.block i (Nat.lt_of_lt_of_le hi h.size) (fun e => by cases e; omega)).trans (h.block i hi hr)⟩

theorem DSt.set (h : DSt w0 a len cap b w wr v l) {g : Nat} (hg : w.heap.size ≤ g) (hne : ¬ v.ownBlock = some g) (j : Nat) (x : Value) : DSt w0 a len cap b w (wr.setCell ⟨g, j, none⟩ x) v l :=
  ⟨h.own.kept (Lib.grownBy_setCell wr g j x) (Or.inr hne), h.sz, h.cur.grown (Lib.grownBy_setCell wr g j x) (fun e => by cases e; have := h.lt; omega) (fun k e => by cases e; have := h.le; omega), g_later h.gr (Lib.grownBy_setCell wr g j x) hg, h.lt, h.le⟩

theorem DSt.join {w1 : World} {v' : Value} {m : List At} (h : DSt w0 a len cap b w wr v l) (hm : AtD 20 m) (ho : w1.ownsRow w.heap.size 42 2 v' (l.length + m.length) (atC l ++ atC m)) (g : wr.grownBy w1 v.ownBlock) : DSt w0 a len cap b w w1 v' (l ++ m) := by
  have e : atC (l ++ m) = atC l ++ atC m := by unfold atC; rw [List.flatMap_append]
  refine ⟨by rw [List.length_append, e]; exact ho, fun x hx => ?_, h.cur.grown g (fun x => h.ne x.symm) (fun k x => by have := (h.own.lt k x).1; have := h.le; omega), ?_, h.lt, h.le⟩
  · rcases List.mem_append.1 hx with h' | h'
    · exact h.sz x h'
    · exact hm x h'
  · exact ⟨g.os.trans h.gr.os, g.tape.trans h.gr.tape, g.output.trans h.gr.output, Nat.le_trans h.gr.size g.size, fun i hi hr => (g.block i (Nat.lt_of_lt_of_le hi h.gr.size) (fun x => by have := (h.own.lt i x.symm).1; omega)).trans (h.gr.block i hi hr)⟩

theorem DSt.row (h : DSt w0 a len cap b w wr v l) : ∃ a' c', v = .slice a' l.length c' ∧ OwnAts wr w.heap.size a' l := by
  rcases h.own.2 with ⟨rfl, h0⟩ | ⟨g, cp, cur, rfl, hg, hh, hn, hc, hs, ht⟩
  · exact ⟨none, 0, by rw [h0], fun hl => by omega⟩
  · refine ⟨_, _, rfl, fun _ => ⟨g, 0, cur, rfl, hg, hh, fun j hj => ?_⟩⟩
    obtain ⟨g1, g2⟩ := atC_get l j hj
    rw [← ht, List.getElem?_take] at g1 g2
    refine ⟨?_, ?_⟩
    · rw [Nat.zero_add, ← Array.getElem?_toList]
      split at g1
      · exact g1
      · cases g1
    · rw [Nat.zero_add, ← Array.getElem?_toList]
      split at g2
      · exact g2
      · cases g2

end

def tabA : Obj := .cells #[.string ⟨#[97]⟩, .string ⟨#[120]⟩, .string ⟨#[112, 58, 97]⟩, .string ⟨#[113, 58, 97]⟩, .string ⟨#[112, 58, 120]⟩, .string ⟨#[110, 115]⟩, .string ⟨#[110, 115, 58, 112]⟩, .string ⟨#[73, 100]⟩] 9 (0, 0)

theorem tabA_at (w : World) (B x : Nat) (hx : x < 8) (h : w.heap[B]? = some tabA) : ∃ t : ByteArray, w.cell? ⟨B, x, none⟩ = some (.string t) ∧ (t.size ≤ 7 ∧ ¬ t.size = 6) := by
  rw [Lib.cell_of_heap h]
  rcases (show x = 0 ∨ x = 1 ∨ x = 2 ∨ x = 3 ∨ x = 4 ∨ x = 5 ∨ x = 6 ∨ x = 7 from by omega) with rfl | rfl | rfl | rfl | rfl | rfl | rfl | rfl
  all_goals exact ⟨_, rfl, by decide⟩

end Go.Proofs.YtmghipjpgoghlaaGreat

namespace Go.Proofs.YtmghipjpgoghlaaGreat
open Go.RowKit

def letB (c : Int) : Bool := (decide (97 ≤ c) && decide (c ≤ 122)) || (decide (65 ≤ c) && decide (c ≤ 90))

def allL (l : List UInt8) : Bool := l.all fun c => letB c.toNat

/-- One to ten letters. -/
def lettersL (l : List UInt8) : Bool := (decide (1 ≤ l.length) && decide (l.length ≤ 10)) && allL l

theorem sz (s : ByteArray) : s.size = s.data.toList.length := rfl

theorem take_snoc (s : ByteArray) (k : Nat) (h : k < s.size) : s.data.toList.take (k + 1) = s.data.toList.take k ++ [s[k]] := by
  rw [List.take_succ_eq_append_getElem (by simpa using h)]; rfl

theorem take_full (s : ByteArray) (k : Nat) (h : ¬ k < s.size) : s.data.toList.take k = s.data.toList := by
  have e : s.size = s.data.toList.length := rfl
  exact List.take_of_length_le (by omega)

theorem allL_snoc (l : List UInt8) (c : UInt8) : allL (l ++ [c]) = (allL l && letB c.toNat) := by
  simp [allL]

theorem allL_no (s : ByteArray) (k : Nat) (h : k < s.size) (hb : letB s[k].toNat = false) : allL s.data.toList = false := by
  have hm : s[k] ∈ s.data.toList := by simp [ByteArray.getElem_eq_getElem_data]
  cases hp : allL s.data.toList with
  | false => rfl
  | true =>
    unfold allL at hp
    rw [List.all_eq_true] at hp
    have := hp _ hm
    rw [hb] at this
    exact absurd this (by decide)

/-- The pieces between the colons. -/
def splitA : List UInt8 → List UInt8 → List (List UInt8)
  | cur, [] => [cur]
  | cur, c :: r => if c.toNat = 58 then cur :: splitA [] r else splitA (cur ++ [c]) r

def splitL (l : List UInt8) : List (List UInt8) := splitA [] l

/-- Where the first colon stands. -/
def colonAt (l : List UInt8) : Option Nat := l.findIdx? fun c => c.toNat == 58

def preL (l : List UInt8) : List UInt8 := match colonAt l with
  | none => []
  | some a => l.take a

def locL (l : List UInt8) : List UInt8 := match colonAt l with
  | none => l
  | some a => l.drop (a + 1)

def nameL (l : List UInt8) : Bool := match colonAt l with
  | none => lettersL l
  | some _ => lettersL (preL l) && lettersL (locL l)

theorem splitA_no (l : List UInt8) : ∀ cur, colonAt l = none → splitA cur l = [cur ++ l] := by
  induction l with
  | nil => intro cur _; simp [splitA]
  | cons c r ih =>
    intro cur h
    unfold colonAt at h
    rw [List.findIdx?_cons] at h
    split at h
    · simp at h
    · rename_i hc
      have hr : colonAt r = none := by
        unfold colonAt
        cases hh : List.findIdx? (fun c : UInt8 => c.toNat == 58) r with
        | none => rfl
        | some a => rw [hh] at h; simp at h
      rw [splitA, if_neg (by simpa using hc), ih _ hr]
      simp

theorem splitA_some (l : List UInt8) : ∀ cur a, colonAt l = some a → splitA cur l = (cur ++ l.take a) :: splitA [] (l.drop (a + 1)) := by
  induction l with
  | nil => intro cur a h; simp [colonAt] at h
  | cons c r ih =>
    intro cur a h
    unfold colonAt at h
    rw [List.findIdx?_cons] at h
    split at h
    · rename_i hc
      simp at h
      subst h
      rw [splitA, if_pos (by simpa using hc)]
      simp
    · rename_i hc
      cases hh : List.findIdx? (fun c : UInt8 => c.toNat == 58) r with
      | none => rw [hh] at h; simp at h
      | some b =>
        rw [hh] at h
        simp at h
        subst h
        rw [splitA, if_neg (by simpa using hc), ih _ b hh]
        simp

theorem splitL_no {l : List UInt8} (h : colonAt l = none) : splitL l = [l] := by
  unfold splitL; rw [splitA_no l [] h]; rfl

theorem splitL_some {l : List UInt8} {a : Nat} (h : colonAt l = some a) : splitL l = l.take a :: splitL (l.drop (a + 1)) := by
  unfold splitL; rw [splitA_some l [] a h]; rfl

theorem colon_mem {l : List UInt8} {a : Nat} (h : colonAt l = some a) : ∃ c, c ∈ l ∧ c.toNat = 58 := by
  unfold colonAt at h
  obtain ⟨ha, hp, _⟩ := List.findIdx?_eq_some_iff_getElem.1 h
  exact ⟨l[a], List.getElem_mem ha, by simpa using hp⟩

theorem colon_letters {l : List UInt8} {a : Nat} (h : colonAt l = some a) : lettersL l = false := by
  obtain ⟨c, hm, hc⟩ := colon_mem h
  have : allL l = false := by
    cases hp : allL l with
    | false => rfl
    | true =>
      unfold allL at hp
      rw [List.all_eq_true] at hp
      have := hp c hm
      rw [hc] at this
      exact absurd this (by decide)
  simp [lettersL, this]

/-- What spec.NameOk asks of the pieces. -/
def piecesOk (p : List (List UInt8)) : Bool := match p with
  | [a] => lettersL a
  | [a, b] => lettersL a && lettersL b
  | _ => false

theorem pieces_name (l : List UInt8) : piecesOk (splitL l) = nameL l := by
  cases h : colonAt l with
  | none => rw [splitL_no h]; simp [piecesOk, nameL, h]
  | some a =>
    rw [splitL_some h]
    cases h2 : colonAt (l.drop (a + 1)) with
    | none => rw [splitL_no h2]; simp [piecesOk, nameL, preL, locL, h]
    | some b =>
      have hn : lettersL (l.drop (a + 1)) = false := colon_letters h2
      rw [splitL_some h2]
      have hne : ∀ x, splitL x ≠ [] := by
        intro x
        cases hx : colonAt x with
        | none => rw [splitL_no hx]; simp
        | some c => rw [splitL_some hx]; simp
      cases h3 : splitL ((l.drop (a + 1)).drop (b + 1)) with
      | nil => exact absurd h3 (hne _)
      | cons x y => simp [piecesOk, nameL, preL, locL, h, hn]

end Go.Proofs.YtmghipjpgoghlaaGreat

namespace Go.Proofs.YtmghipjpgoghlaaGreat
open Go.RowKit
set_option linter.unusedVariables false
set_option linter.unusedSimpArgs false

theorem ret_bool {a b : Bool} (h : a = b) : Ending.returned (.bool a) = .returned (.bool b) := by rw [h]

theorem c__impl_sign__letter (c : Int) (w : World) (h0 : 0 ≤ c) (h1 : c ≤ 255) :
    Calls Tryz.prog 182 #[.int .u8 c] w fun e w' => e = .returned (.bool (letB c)) ∧ w' = w := by
  go_enter Tryz.func182, Tryz.ntmps182
  go_wp2
  all_goals go_ret
  all_goals exact ⟨ret_bool (by rw [Bool.eq_iff_iff]; simp [letB]; try omega), rfl⟩

theorem c_impl_allSigns (s : ByteArray) (w : World) (hs : s.size ≤ maxLen) :
    Calls Tryz.prog 142 #[.string s, .func (.func 182) #[] #[]] w fun e w' => e = .returned (.bool (allL s.data.toList)) ∧ w' = w := by
  unfold maxLen at hs
  go_enter Tryz.func142, Tryz.ntmps142
  go_wp2
  go_loop [8] (fun i => ∃ k : Nat, k ≤ s.size ∧ i = .int .i64 k ∧ allL (s.data.toList.take k) = true) (fun i => s.size - (intOf i).toNat)
  case atStart => exact ⟨0, Nat.zero_le _, rfl, rfl⟩
  case round =>
    obtain ⟨k, hk, rfl, hp⟩ := hrel
    by_cases hlt : k < s.size
    · have HP : Hid (allL (s.data.toList.take k) = true) := hp
      clear hp
      have hb : (s[k].toNat : Int) ≤ 255 := by have := s[k].toNat_lt; omega
      cases hc : letB s[k].toNat
      · go_wp2_with (go_at_call 182; refine (c__impl_sign__letter _ _ (by omega) hb).mono ?_; rintro e w' ⟨rfl, rfl⟩)
        go_ret
        exact ⟨ret_bool (allL_no s k hlt hc).symm, rfl⟩
      · go_wp2_with (go_at_call 182; refine (c__impl_sign__letter _ _ (by omega) hb).mono ?_; rintro e w' ⟨rfl, rfl⟩)
        go_round
        case rel => exact ⟨k + 1, by omega, by go_num, by rw [take_snoc s k hlt, allL_snoc, HP.out, hc]; rfl⟩
        case measure => simp [intOf]; omega
    · go_wp2
      go_ret
      exact ⟨ret_bool (by rw [← take_full s k hlt]; exact hp.symm), rfl⟩

theorem c_impl_lettersOk (s : ByteArray) (w : World) (hs : s.size ≤ maxLen) :
    Calls Tryz.prog 156 #[.string s] w fun e w' => e = .returned (.bool (lettersL s.data.toList)) ∧ w' = w := by
  have hz := sz s
  have hm : s.size ≤ 9223372036854775807 := by unfold maxLen at hs; exact hs
  by_cases h1 : 1 ≤ s.size
  · by_cases h2 : s.size ≤ 10
    · have e : lettersL s.data.toList = allL s.data.toList := by
        rw [lettersL, decide_eq_true (show 1 ≤ s.data.toList.length by omega), decide_eq_true (show s.data.toList.length ≤ 10 by omega)]; simp
      rw [e]
      clear hz e
      go_enter Tryz.func156, Tryz.ntmps156
      go_wp2_with (go_at_call 142; refine (c_impl_allSigns _ _ hs).mono ?_; rintro e w' ⟨rfl, rfl⟩)
      go_ret
      exact ⟨rfl, rfl⟩
    · have e : lettersL s.data.toList = false := by
        rw [lettersL, decide_eq_false (show ¬ s.data.toList.length ≤ 10 by omega)]; simp
      rw [e]
      clear hz e
      go_enter Tryz.func156, Tryz.ntmps156
      go_wp2_with fail
      go_ret
      exact ⟨rfl, rfl⟩
  · have e : lettersL s.data.toList = false := by
      rw [lettersL, decide_eq_false (show ¬ 1 ≤ s.data.toList.length by omega)]; simp
    rw [e]
    clear hz e
    go_enter Tryz.func156, Tryz.ntmps156
    go_wp2_with fail
    go_ret
    exact ⟨rfl, rfl⟩

theorem c__impl_sign__same_yes (c : Int) (w : World) (h0 : c ≤ 58) (h1 : 58 ≤ c) :
    Calls Tryz.prog 155 #[.int .u8 58, .int .u8 c] w fun e w' => e = .returned (.bool true) ∧ w' = w := by
  have h : c = 58 := by omega
  subst h
  go_enter Tryz.func155, Tryz.ntmps155
  go_wp2
  go_ret
  exact ⟨rfl, rfl⟩

theorem c__impl_sign__same_no (c : Int) (w : World) (h : ¬ c = 58) :
    Calls Tryz.prog 155 #[.int .u8 58, .int .u8 c] w fun e w' => e = .returned (.bool false) ∧ w' = w := by
  have h' : ¬ 58 = c := fun e => h e.symm
  have hb : ((58 : Int) == c) = false := by simp [h']
  go_enter Tryz.func155, Tryz.ntmps155
  go_wp2
  go_ret
  exact ⟨rfl, rfl⟩

def colonI (l : List UInt8) : Int := match colonAt l with
  | none => -1
  | some a => a

theorem colonI_at (s : ByteArray) (k : Nat) (h : k < s.size) (hc : s[k].toNat = 58) (hn : ∀ c ∈ s.data.toList.take k, ¬ c.toNat = 58) : colonI s.data.toList = k := by
  have e : colonAt s.data.toList = some k := by
    unfold colonAt
    rw [List.findIdx?_eq_some_iff_getElem]
    have hl : k < s.data.toList.length := h
    refine ⟨hl, by show (s[k].toNat == 58) = true; rw [hc]; rfl, fun j hj => ?_⟩
    have : s.data.toList[j] ∈ s.data.toList.take k := by
      rw [List.mem_take_iff_getElem]
      exact ⟨j, by omega, rfl⟩
    simpa using hn _ this
  simp [colonI, e]

theorem colonI_no (l : List UInt8) (hn : ∀ c ∈ l, ¬ c.toNat = 58) : colonI l = -1 := by
  have e : colonAt l = none := by
    unfold colonAt
    rw [List.findIdx?_eq_none_iff]
    intro x hx
    simpa using hn x hx
  simp [colonI, e]

theorem c_impl_firstSign (s : ByteArray) (w : World) (hs : s.size ≤ maxLen) :
    Calls Tryz.prog 154 #[.string s, .func (.func 155) #[.int .u8 58] #[]] w fun e w' => e = .returned (.int .i64 (colonI s.data.toList)) ∧ w' = w := by
  unfold maxLen at hs
  go_enter Tryz.func154, Tryz.ntmps154
  go_wp2
  go_loop [8] (fun i => ∃ k : Nat, k ≤ s.size ∧ i = .int .i64 k ∧ Hid (∀ c ∈ s.data.toList.take k, ¬ c.toNat = 58)) (fun i => s.size - (intOf i).toNat)
  case atStart => exact ⟨0, Nat.zero_le _, rfl, by simp [Hid]⟩
  case round =>
    obtain ⟨k, hk, rfl, HP⟩ := hrel
    by_cases hlt : k < s.size
    · by_cases hc : (s[k].toNat : Int) = 58
      · have g0 : (s[k].toNat : Int) ≤ 58 := by omega
        have g1 : (58 : Int) ≤ s[k].toNat := by omega
        have HC : Hid (colonI s.data.toList = k) := colonI_at s k hlt (by omega) HP.out
        clear hc
        go_wp2_with (go_at_call 155; refine (c__impl_sign__same_yes _ _ g0 g1).mono ?_; rintro e w' ⟨rfl, rfl⟩)
        go_ret
        exact ⟨by rw [HC.out]; rfl, rfl⟩
      · have HN : Hid (∀ c ∈ s.data.toList.take (k + 1), ¬ c.toNat = 58) := by
          show ∀ c ∈ _, _
          intro c hm
          rw [take_snoc s k hlt, List.mem_append] at hm
          rcases hm with hm | hm
          · exact HP.out c hm
          · simp at hm; subst hm; omega
        go_wp2_with (go_at_call 155; refine (c__impl_sign__same_no _ _ hc).mono ?_; rintro e w' ⟨rfl, rfl⟩)
        go_round
        case rel => exact ⟨k + 1, by omega, by go_num, HN⟩
        case measure => simp [intOf]; omega
    · have HC : Hid (colonI s.data.toList = -1) := colonI_no _ (by rw [← take_full s k hlt]; exact HP.out)
      go_wp2
      go_ret
      exact ⟨by rw [HC.out]; rfl, rfl⟩

theorem ext_pre (s : ByteArray) (a : Nat) : s.extract 0 a = ⟨(s.data.toList.take a).toArray⟩ := by
  have := ByteArray.extract_mk s.data.toList 0 a
  simpa using this

theorem ext_loc (s : ByteArray) (a : Nat) : s.extract a s.size = ⟨(s.data.toList.drop a).toArray⟩ := by
  have h := ByteArray.extract_mk s.data.toList a s.size
  have e : (s.data.toList.drop a).take (s.size - a) = s.data.toList.drop a := List.take_of_length_le (by rw [List.length_drop, sz s]; exact Nat.le_refl _)
  rw [e] at h
  simpa using h

theorem colonI_lt (l : List UInt8) (a : Nat) (h : colonAt l = some a) : a < l.length := by
  unfold colonAt at h
  obtain ⟨ha, _, _⟩ := List.findIdx?_eq_some_iff_getElem.1 h
  exact ha


end Go.Proofs.YtmghipjpgoghlaaGreat
