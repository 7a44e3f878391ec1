/- Plain mathematics of names: letters, a text split at colons, a name and its two parts. Small laws of no program: an owned row of bytes as a string; bytes as cells; a call that leaves what was there. Contracts of impl: letters, the first colon, a name split, NameOk. -/
import Derived.Test.YtgdfeicojgnoaaaGreatDoorRows
import Derived.WalkKit
import Derived.OwnWalk
import Derived.Laws.BytesArg
import Derived.Lib.AppendStr
import Derived.Lib.UnsafeStr
import Derived.Lib.Builder
import Derived.Deep.QuietTactic
import Derived.BigQuiet
namespace Go.Proofs.YtgdfeicojgnoaaaGreatDoor
open Go.RowKit

def letB (c : Int) : Bool := (decide (97 ≤ c) && decide (c ≤ 122)) || (decide (65 ≤ c) && decide (c ≤ 90))

def allL (l : List UInt8) : Bool := l.all fun c => letB c.toNat

/-- One to ten letters. -/
def lettersL (l : List UInt8) : Bool := (decide (1 ≤ l.length) && decide (l.length ≤ 10)) && allL l

theorem sz (s : ByteArray) : s.size = s.data.toList.length := rfl

theorem take_snoc (s : ByteArray) (k : Nat) (h : k < s.size) : s.data.toList.take (k + 1) = s.data.toList.take k ++ [s[k]] := by
  rw [List.take_succ_eq_append_getElem (by simpa using h)]; rfl

theorem take_full (s : ByteArray) (k : Nat) (h : ¬ k < s.size) : s.data.toList.take k = s.data.toList := by
  have e : s.size = s.data.toList.length := rfl
  exact List.take_of_length_le (by omega)

theorem allL_snoc (l : List UInt8) (c : UInt8) : allL (l ++ [c]) = (allL l && letB c.toNat) := by
  simp [allL]

theorem allL_no (s : ByteArray) (k : Nat) (h : k < s.size) (hb : letB s[k].toNat = false) : allL s.data.toList = false := by
  have hm : s[k] ∈ s.data.toList := by simp [ByteArray.getElem_eq_getElem_data]
  cases hp : allL s.data.toList with
  | false => rfl
  | true =>
    unfold allL at hp
    rw [List.all_eq_true] at hp
    have := hp _ hm
    rw [hb] at this
    exact absurd this (by decide)

/-- The pieces between the colons. -/
def splitA : List UInt8 → List UInt8 → List (List UInt8)
  | cur, [] => [cur]
  | cur, c :: r => if c.toNat = 58 then cur :: splitA [] r else splitA (cur ++ [c]) r

def splitL (l : List UInt8) : List (List UInt8) := splitA [] l

/-- Where the first colon stands. -/
def colonAt (l : List UInt8) : Option Nat := l.findIdx? fun c => c.toNat == 58

def preL (l : List UInt8) : List UInt8 := match colonAt l with
  | none => []
  | some a => l.take a

def locL (l : List UInt8) : List UInt8 := match colonAt l with
  | none => l
  | some a => l.drop (a + 1)

def nameL (l : List UInt8) : Bool := match colonAt l with
  | none => lettersL l
  | some _ => lettersL (preL l) && lettersL (locL l)

theorem splitA_no (l : List UInt8) : ∀ cur, colonAt l = none → splitA cur l = [cur ++ l] := by
  induction l with
  | nil => intro cur _; simp [splitA]
  | cons c r ih =>
    intro cur h
    unfold colonAt at h
    rw [List.findIdx?_cons] at h
    split at h
    · simp at h
    · rename_i hc
      have hr : colonAt r = none := by
        unfold colonAt
        cases hh : List.findIdx? (fun c : UInt8 => c.toNat == 58) r with
        | none => rfl
        | some a => rw [hh] at h; simp at h
      rw [splitA, if_neg (by simpa using hc), ih _ hr]
      simp

theorem splitA_some (l : List UInt8) : ∀ cur a, colonAt l = some a → splitA cur l = (cur ++ l.take a) :: splitA [] (l.drop (a + 1)) := by
  induction l with
  | nil => intro cur a h; simp [colonAt] at h
  | cons c r ih =>
    intro cur a h
    unfold colonAt at h
    rw [List.findIdx?_cons] at h
    split at h
    · rename_i hc
      simp at h
      subst h
      rw [splitA, if_pos (by simpa using hc)]
      simp
    · rename_i hc
      cases hh : List.findIdx? (fun c : UInt8 => c.toNat == 58) r with
      | none => rw [hh] at h; simp at h
      | some b =>
        rw [hh] at h
        simp at h
        subst h
        rw [splitA, if_neg (by simpa using hc), ih _ b hh]
        simp

theorem splitL_no {l : List UInt8} (h : colonAt l = none) : splitL l = [l] := by
  unfold splitL; rw [splitA_no l [] h]; rfl

theorem splitL_some {l : List UInt8} {a : Nat} (h : colonAt l = some a) : splitL l = l.take a :: splitL (l.drop (a + 1)) := by
  unfold splitL; rw [splitA_some l [] a h]; rfl

theorem colon_mem {l : List UInt8} {a : Nat} (h : colonAt l = some a) : ∃ c, c ∈ l ∧ c.toNat = 58 := by
  unfold colonAt at h
  obtain ⟨ha, hp, _⟩ := List.findIdx?_eq_some_iff_getElem.1 h
  exact ⟨l[a], List.getElem_mem ha, by simpa using hp⟩

theorem colon_letters {l : List UInt8} {a : Nat} (h : colonAt l = some a) : lettersL l = false := by
  obtain ⟨c, hm, hc⟩ := colon_mem h
  have : allL l = false := by
    cases hp : allL l with
    | false => rfl
    | true =>
      unfold allL at hp
      rw [List.all_eq_true] at hp
      have := hp c hm
      rw [hc] at this
      exact absurd this (by decide)
  simp [lettersL, this]

/-- What spec.NameOk asks of the pieces. -/
def piecesOk (p : List (List UInt8)) : Bool := match p with
  | [a] => lettersL a
  | [a, b] => lettersL a && lettersL b
  | _ => false

theorem pieces_name (l : List UInt8) : piecesOk (splitL l) = nameL l := by
  cases h : colonAt l with
  | none => rw [splitL_no h]; simp [piecesOk, nameL, h]
  | some a =>
    rw [splitL_some h]
    cases h2 : colonAt (l.drop (a + 1)) with
    | none => rw [splitL_no h2]; simp [piecesOk, nameL, preL, locL, h]
    | some b =>
      have hn : lettersL (l.drop (a + 1)) = false := colon_letters h2
      rw [splitL_some h2]
      have hne : ∀ x, splitL x ≠ [] := by
        intro x
        cases hx : colonAt x with
        | none => rw [splitL_no hx]; simp
        | some c => rw [splitL_some hx]; simp
      cases h3 : splitL ((l.drop (a + 1)).drop (b + 1)) with
      | nil => exact absurd h3 (hne _)
      | cons x y => simp [piecesOk, nameL, preL, locL, h, hn]

end Go.Proofs.YtgdfeicojgnoaaaGreatDoor

namespace Go.Proofs.YtgdfeicojgnoaaaGreatDoor
open Go.RowKit

theorem byteCells_app (a b : List UInt8) : Lib.byteCells (a ++ b) = Lib.byteCells a ++ Lib.byteCells b := by simp [Lib.byteCells]

theorem strCells_eq (l : List UInt8) : Lib.strCells ⟨l.toArray⟩ = Lib.byteCells l := by simp [Lib.strCells, Lib.byteCells]

theorem run_str_own {P : Program} {w : World} {base : Nat} {e src dst : TypeId} {v : Value} {l : List UInt8} (hs : P.underlying src = some (.slice e)) (he : P.underlying e = some (.int .u8)) (hd : P.underlying dst = some .string)
    (hown : w.ownsRow base e 1 v l.length (Lib.byteCells l)) : (convert src dst v).run P w = .ok (.string ⟨l.toArray⟩) w := by
  rcases hown.2 with ⟨rfl, h0⟩ | ⟨g, cap, cur, rfl, _⟩
  · have : l = [] := List.length_eq_zero_iff.1 h0
    subst this
    rw [run_convert_bytes_nil w src e hs he 0 0 dst hd]
    rfl
  · have h := run_convert_bytes_arg (P := P) w src e hs he g 0 l.length cap (l.map fun b => (b.toNat : Int)) (by simp) (fun i hi => by
      have := hown.cells (g := g) rfl i (.int .u8 (l[i]'hi).toNat) (by simp [Lib.byteCells, hi])
      have hplain : (⟨g, 0, none⟩ : Addr).add i = ⟨g, 0 + i, none⟩ := by unfold Addr.add; split <;> simp_all
      rw [hplain] at this
      rw [this]
      simp [List.getD, hi]) dst hd
    rw [h]
    simp [strOfNums, Function.comp_def]

theorem lt_of_heap {w : World} {b : Nat} {o : Obj} (h : w.heap[b]? = some o) : b < w.heap.size := by
  rcases Nat.lt_or_ge b w.heap.size with h' | h'
  · exact h'
  · simp [Array.getElem?_eq_none h'] at h

theorem ownsRow_below {w w1 : World} {base : Nat} {e : TypeId} {size : Nat} {v : Value} {n : Nat} {xs : List Value} (h : w.ownsRow base e size v n xs) (hb : Below w.heap.size w w1) : w1.ownsRow base e size v n xs := by
  obtain ⟨hl, h⟩ := h
  refine ⟨hl, ?_⟩
  rcases h with h | ⟨g, cap, cur, hv, hg, hh, r⟩
  · exact .inl h
  · exact .inr ⟨g, cap, cur, hv, hg, (hb.block g (lt_of_heap hh)).trans hh, r⟩

theorem builderAt_below {w w1 : World} {T e : TypeId} {B b : Nat} {p : Value} {bs : List Value} (h : Lib.BuilderAt T e B b p bs w) (hb : Below w.heap.size w w1) : Lib.BuilderAt T e B b p bs w1 := by
  obtain ⟨hB, v, hh, hown, hne⟩ := h
  exact ⟨hB, v, (hb.block b (lt_of_heap hh)).trans hh, ownsRow_below hown hb, hne⟩

theorem isBuilder_below {w w1 : World} {T e : TypeId} {B b : Nat} {bs : List Value} (h : Lib.IsBuilder T e B b bs w) (hb : Below w.heap.size w w1) : Lib.IsBuilder T e B b bs w1 :=
  h.elim (fun x => .inl (builderAt_below x hb)) (fun x => .inr (builderAt_below x hb))

end Go.Proofs.YtgdfeicojgnoaaaGreatDoor

namespace Go.Proofs.YtgdfeicojgnoaaaGreatDoor
open Go.RowKit
set_option linter.unusedVariables false
set_option linter.unusedSimpArgs false

theorem ret_bool {a b : Bool} (h : a = b) : Ending.returned (.bool a) = .returned (.bool b) := by rw [h]

theorem c__impl_sign__letter (c : Int) (w : World) (h0 : 0 ≤ c) (h1 : c ≤ 255) :
    Calls Tryz.prog 116 #[.int .u8 c] w fun e w' => e = .returned (.bool (letB c)) ∧ w' = w := by
  go_enter Tryz.func116, Tryz.ntmps116
  go_wp2
  all_goals go_ret
  all_goals exact ⟨ret_bool (by rw [Bool.eq_iff_iff]; simp [letB]; try omega), rfl⟩

theorem c_impl_allSigns (s : ByteArray) (w : World) (hs : s.size ≤ maxLen) :
    Calls Tryz.prog 79 #[.string s, .func (.func 116) #[] #[]] w fun e w' => e = .returned (.bool (allL s.data.toList)) ∧ w' = w := by
  unfold maxLen at hs
  go_enter Tryz.func79, Tryz.ntmps79
  go_wp2
  go_loop [8] (fun i => ∃ k : Nat, k ≤ s.size ∧ i = .int .i64 k ∧ allL (s.data.toList.take k) = true) (fun i => s.size - (intOf i).toNat)
  case atStart => exact ⟨0, Nat.zero_le _, rfl, rfl⟩
  case round =>
    obtain ⟨k, hk, rfl, hp⟩ := hrel
    by_cases hlt : k < s.size
    · have HP : Hid (allL (s.data.toList.take k) = true) := hp
      clear hp
      have hb : (s[k].toNat : Int) ≤ 255 := by have := s[k].toNat_lt; omega
      cases hc : letB s[k].toNat
      · go_wp2_with (go_at_call 116; refine (c__impl_sign__letter _ _ (by omega) hb).mono ?_; rintro e w' ⟨rfl, rfl⟩)
        go_ret
        exact ⟨ret_bool (allL_no s k hlt hc).symm, rfl⟩
      · go_wp2_with (go_at_call 116; refine (c__impl_sign__letter _ _ (by omega) hb).mono ?_; rintro e w' ⟨rfl, rfl⟩)
        go_round
        case rel => exact ⟨k + 1, by omega, by go_num, by rw [take_snoc s k hlt, allL_snoc, HP.out, hc]; rfl⟩
        case measure => simp [intOf]; omega
    · go_wp2
      go_ret
      exact ⟨ret_bool (by rw [← take_full s k hlt]; exact hp.symm), rfl⟩

def colonI (l : List UInt8) : Int := match colonAt l with
  | none => -1
  | some a => a

theorem colonI_at (s : ByteArray) (k : Nat) (h : k < s.size) (hc : s[k].toNat = 58) (hn : ∀ c ∈ s.data.toList.take k, ¬ c.toNat = 58) : colonI s.data.toList = k := by
  have e : colonAt s.data.toList = some k := by
    unfold colonAt
    rw [List.findIdx?_eq_some_iff_getElem]
    have hl : k < s.data.toList.length := h
    refine ⟨hl, by show (s[k].toNat == 58) = true; rw [hc]; rfl, fun j hj => ?_⟩
    have : s.data.toList[j] ∈ s.data.toList.take k := by
      rw [List.mem_take_iff_getElem]
      exact ⟨j, by omega, rfl⟩
    simpa using hn _ this
  simp [colonI, e]

theorem colonI_no (l : List UInt8) (hn : ∀ c ∈ l, ¬ c.toNat = 58) : colonI l = -1 := by
  have e : colonAt l = none := by
    unfold colonAt
    rw [List.findIdx?_eq_none_iff]
    intro x hx
    simpa using hn x hx
  simp [colonI, e]

theorem ext_pre (s : ByteArray) (a : Nat) : s.extract 0 a = ⟨(s.data.toList.take a).toArray⟩ := by
  have := ByteArray.extract_mk s.data.toList 0 a
  simpa using this

theorem ext_loc (s : ByteArray) (a : Nat) : s.extract a s.size = ⟨(s.data.toList.drop a).toArray⟩ := by
  have h := ByteArray.extract_mk s.data.toList a s.size
  have e : (s.data.toList.drop a).take (s.size - a) = s.data.toList.drop a := List.take_of_length_le (by rw [List.length_drop, sz s]; exact Nat.le_refl _)
  rw [e] at h
  simpa using h

theorem colonI_lt (l : List UInt8) (a : Nat) (h : colonAt l = some a) : a < l.length := by
  unfold colonAt at h
  obtain ⟨ha, _, _⟩ := List.findIdx?_eq_some_iff_getElem.1 h
  exact ha


end Go.Proofs.YtgdfeicojgnoaaaGreatDoor
