/- Contracts of what a token is shown as, of the specification. The one way to write it (mathematics alone). The one way to write it: contract of the specification's l11Canon. -/
import Derived.Test.YtkejmifkjgpdjaaGreatM7
import Derived.Test.YtkejmifkjgpdjaaGreatM21
import Derived.Test.YtkejmifkjgpdjaaGreatM20
import Derived.Test.YtkejmifkjgpdjaaGreatM8
import Derived.Test.YtkejmifkjgpdjaaGreatM18
import Derived.Test.YtkejmifkjgpdjaaGreatM17
import Derived.Deep.RegionHeld3
namespace Go.Proofs.YtkejmifkjgpdjaaGreat
open Go.RowKit
set_option linter.unusedVariables false
set_option linter.unusedSimpArgs false

/-- A text as it is escaped. -/
def escS (q : Bool) (s : ByteArray) : ByteArray := ⟨(escapedL q s.data.toList).toArray⟩

/-- An attr as it is shown. -/
def atS (x : At) : ByteArray := (((((⟨#[32]⟩ : ByteArray) ++ x.name) ++ ⟨#[61, 34]⟩) ++ escS true x.value) ++ ⟨#[34]⟩)

/-- Attrs as they are shown, behind what stands ahead. -/
def atsS : List At → ByteArray → ByteArray
  | [], s => s
  | x :: l, s => atsS l (s ++ atS x)

theorem atsS_snoc (l : List At) (x : At) (s : ByteArray) : atsS (l ++ [x]) s = atsS l s ++ atS x := by
  induction l generalizing s with
  | nil => rfl
  | cons y l ih => exact ih _

theorem escS_size (q : Bool) (s : ByteArray) : (escS q s).size ≤ 6 * s.size := by
  have e : (escS q s).size = (escapedL q s.data.toList).length := by unfold escS; simp [ByteArray.size]
  have e2 : s.size = s.data.toList.length := rfl
  rw [e, e2]
  unfold escapedL
  split
  · exact escL_le q _
  · simp

theorem atS_size (x : At) : (atS x).size ≤ 4 + x.name.size + 6 * x.value.size := by
  have h := escS_size true x.value
  have e1 : (⟨#[32]⟩ : ByteArray).size = 1 := rfl
  have e2 : (⟨#[61, 34]⟩ : ByteArray).size = 2 := rfl
  have e3 : (⟨#[34]⟩ : ByteArray).size = 1 := rfl
  unfold atS
  simp only [ByteArray.size_append, e1, e2, e3]
  omega

set_option maxHeartbeats 1000000 in
theorem cL7Attr (x : At) (w : World) (h1 : x.name.size ≤ 1048576) (h2 : x.value.size ≤ 1048576) :
    Calls Tryz.prog 44 #[.agg #[.string x.name, .string x.value]] w fun e w' => e = .returned (.string (atS x)) ∧ Below w.heap.size w w' := by
  have C := fun w => c_spec_Escaped x.value true w h2
  have hz := escS_size true x.value
  have e0 : atS x = (((((⟨#[32]⟩ : ByteArray) ++ x.name) ++ ⟨#[61, 34]⟩) ++ escS true x.value) ++ ⟨#[34]⟩) := rfl
  rw [e0]
  have e1 : (⟨(escapedL true x.value.data.toList).toArray⟩ : ByteArray) = escS true x.value := rfl
  rw [e1] at C
  obtain ⟨E, hE⟩ : ∃ E, escS true x.value = E := ⟨_, rfl⟩
  rw [hE] at C hz ⊢
  clear e0 e1 hE
  generalize x.name = n at *
  generalize x.value = v at *
  have HB0 := hid ((Below.refl w.heap.size w).alloc (Nat.le_refl _) (.cells #[.string n, .string v] 62))
  have M := hid (heap_alloc_new w (.cells #[.string n, .string v] 62))
  obtain ⟨W, hW⟩ : ∃ W, w.alloc (.cells #[.string n, .string v] 62) = W := ⟨_, rfl⟩
  rw [hW] at HB0 M
  have k1 : W.cell? ⟨w.heap.size, 0, none⟩ = some (.string n) := by rw [Lib.cell_of_heap M.out]; rfl
  have k2 : W.cell? ⟨w.heap.size, 0 + 1, none⟩ = some (.string v) := by rw [Lib.cell_of_heap M.out]; rfl
  obtain ⟨d1, d2⟩ := pair_bw (lt_of_heap M.out) k1 k2
  simp only [Nat.zero_add] at d2
  clear k1 k2
  have HNB := hid (bw_any W)
  go_enter Tryz.func44, Tryz.ntmps44
  go_wp2_with fail
  haveI := HNB.out
  refine wp_region_below (by kernel_rfl) (by kernel_rfl) (Below.refl W.heap.size W) ?_
  repeat (go_big_quiet_step ((go_at_call 40; exact calls_bw _ (C _))))
  refine wpQuiet_nil ?_
  intro _ hw'
  obtain ⟨⟨wq, hwq⟩, hw''⟩ := hw'
  subst hw''
  have HB2 := hid (bb HB0.out hwq)
  go_wp2_with fail
  go_ret
  exact ⟨rfl, HB2.out⟩

/-- A token as it is shown. -/
def showS (t : Tk) : ByteArray :=
  if t.kind = 2 then ((⟨#[60, 47]⟩ : ByteArray) ++ t.name) ++ ⟨#[62]⟩
  else if t.kind = 3 then escS false t.text
  else atsS t.attrs ((⟨#[60]⟩ : ByteArray) ++ t.name) ++ ⟨#[62]⟩

theorem atsS_size (l : List At) (s : ByteArray) (hz : AtSz 1048576 l) : (atsS l s).size ≤ s.size + l.length * 7340036 := by
  induction l generalizing s with
  | nil => simp [atsS]
  | cons x l ih =>
    have h1 := ih (s ++ atS x) (fun y hy => hz y (List.mem_cons_of_mem _ hy))
    have h2 := atS_size x
    have h3 := hz x List.mem_cons_self
    rw [ByteArray.size_append] at h1
    rw [List.length_cons]
    show (atsS l (s ++ atS x)).size ≤ _
    omega

theorem tokB_len {t : Tk} (h : tokB t = true) : t.attrs.length ≤ 6 := by
  unfold tokB at h
  split at h
  · simp only [Bool.and_eq_true] at h
    have h2 := h.2.1
    by_cases k : AttrsOk t.attrs
    · exact k.1
    · rw [attrsB_f k] at h2
      cases h2
  · split at h
    · simp only [Bool.and_eq_true, decide_eq_true_eq] at h
      omega
    · split at h
      · simp only [Bool.and_eq_true, decide_eq_true_eq] at h
        omega
      · cases h

/-- What ShowToken answers. -/
noncomputable def shownT (t : Tk) : ByteArray := if tokB t = true then showS t else ⟨#[]⟩

end Go.Proofs.YtkejmifkjgpdjaaGreat

namespace Go.Proofs.YtkejmifkjgpdjaaGreat
open Go.RowKit
set_option linter.unusedVariables false

/-- Where an attr comes to stand: behind all that it is not ahead of. -/
noncomputable def insN (ts : List Tk) (k : Nat) (aL : List At) (x : At) : Nat := (aL.takeWhile fun y => !aheadF ts k x y).length

theorem insN_is {ts : List Tk} {k : Nat} {aL : List At} {x : At} {j : Nat} (hj : j ≤ aL.length) (h1 : ∀ y ∈ aL.take j, aheadF ts k x y = false) (h2 : ∀ h : j < aL.length, aheadF ts k x aL[j] = true) : insN ts k aL x = j := by
  unfold insN
  induction aL generalizing j with
  | nil =>
    have : j = 0 := by simpa using hj
    subst this
    rfl
  | cons y aL ih =>
    cases j with
    | zero =>
      have h := h2 (by simp)
      simp only [List.getElem_cons_zero] at h
      rw [List.takeWhile_cons, h]
      rfl
    | succ j =>
      rw [List.takeWhile_cons, h1 y (by simp)]
      simp only [Bool.not_false, if_true, List.length_cons]
      rw [ih (by simpa using hj) (fun z hz => h1 z (by simp [hz])) (fun h => by have := h2 (by simpa using h); simpa using this)]

theorem tw_low {α : Type} {p : α → Bool} : ∀ {l : List α} {j : Nat}, j < (l.takeWhile p).length → ∃ h : j < l.length, p l[j] = true
  | [], j, h => by simp at h
  | x :: l, j, h => by
    rw [List.takeWhile_cons] at h
    split at h
    · rename_i hx
      cases j with
      | zero => exact ⟨by simp, hx⟩
      | succ j =>
        obtain ⟨h1, h2⟩ := tw_low (l := l) (j := j) (by simpa using h)
        exact ⟨by simpa using h1, by simpa using h2⟩
    · simp at h

theorem tw_at {α : Type} {p : α → Bool} : ∀ {l : List α} (h : (l.takeWhile p).length < l.length), p l[(l.takeWhile p).length] = false
  | [], h => by simp at h
  | x :: l, h => by
    by_cases hx : p x = true
    · have e : (List.takeWhile p (x :: l)).length = (List.takeWhile p l).length + 1 := by rw [List.takeWhile_cons, if_pos hx]; rfl
      have h' : (List.takeWhile p l).length < l.length := by rw [e] at h; simpa using h
      have := tw_at h'
      simp only [e, List.getElem_cons_succ]
      exact this
    · have e : (List.takeWhile p (x :: l)).length = 0 := by rw [List.takeWhile_cons, if_neg hx]; rfl
      simp only [e, List.getElem_cons_zero]
      simpa using hx

theorem insN_le (ts : List Tk) (k : Nat) (aL : List At) (x : At) : insN ts k aL x ≤ aL.length := (List.takeWhile_sublist _).length_le

theorem insN_low {ts : List Tk} {k : Nat} {aL : List At} {x : At} {j : Nat} (h : j < insN ts k aL x) (hj : j < aL.length) : aheadF ts k x aL[j] = false := by
  obtain ⟨_, h2⟩ := tw_low h
  simpa using h2

theorem insN_at {ts : List Tk} {k : Nat} {aL : List At} {x : At} {j : Nat} (h : insN ts k aL x = j) (hj : j < aL.length) : aheadF ts k x aL[j] = true := by
  subst h
  have h2 : (!aheadF ts k x aL[insN ts k aL x]) = false := tw_at (p := fun y => !aheadF ts k x y) (l := aL) hj
  simpa using h2

noncomputable def insA (ts : List Tk) (k : Nat) (aL : List At) (x : At) : List At := aL.take (insN ts k aL x) ++ x :: aL.drop (insN ts k aL x)

theorem insA_is {ts : List Tk} {k : Nat} {aL : List At} {x : At} {j : Nat} (h : insN ts k aL x = j) : insA ts k aL x = aL.take j ++ x :: aL.drop j := by unfold insA; rw [h]

theorem insA_len (ts : List Tk) (k : Nat) (aL : List At) (x : At) : (insA ts k aL x).length = aL.length + 1 := by
  unfold insA
  rw [List.length_append, List.length_cons, List.length_take, List.length_drop]
  omega

theorem insA_mem {ts : List Tk} {k : Nat} {aL : List At} {x y : At} (h : y ∈ insA ts k aL x) : y ∈ aL ∨ y = x := by
  unfold insA at h
  rcases List.mem_append.1 h with h' | h'
  · exact .inl (List.mem_of_mem_take h')
  · rcases List.mem_cons.1 h' with h'' | h''
    · exact .inr h''
    · exact .inl (List.mem_of_mem_drop h'')

/-- What the attrs of a node tell: the prefixes that are needed, the others aL they are written. -/
noncomputable def accP (ps : List ByteArray) (x : At) : List ByteArray := if (declF x).isSome then ps else if (preS x.name).size = 0 then ps else putS ps (preS x.name)

noncomputable def accB (ts : List Tk) (k : Nat) (aL : List At) (x : At) : List At := if (declF x).isSome then aL else insA ts k aL x

noncomputable def preL7 (nm : ByteArray) (l : List At) : List ByteArray := l.foldl accP [preS nm]

noncomputable def othL (ts : List Tk) (k : Nat) (l : List At) : List At := l.foldl (accB ts k) []

theorem preL7_next {nm : ByteArray} {l : List At} {i : Nat} (h : i < l.length) : preL7 nm (l.take (i + 1)) = accP (preL7 nm (l.take i)) l[i] := by
  unfold preL7
  rw [take_snocN h, List.foldl_append]
  rfl

theorem othL_next {ts : List Tk} {k : Nat} {l : List At} {i : Nat} (h : i < l.length) : othL ts k (l.take (i + 1)) = accB ts k (othL ts k (l.take i)) l[i] := by
  unfold othL
  rw [take_snocN h, List.foldl_append]
  rfl

theorem accP_no {ps : List ByteArray} {x : At} (h : (declF x).isSome = true) : accP ps x = ps := by unfold accP; rw [if_pos h]
theorem accP_none {ps : List ByteArray} {x : At} (h : (declF x).isSome = false) (h2 : (preS x.name).size = 0) : accP ps x = ps := by unfold accP; rw [if_neg (by rw [h]; exact Bool.false_ne_true), if_pos h2]
theorem accP_put {ps : List ByteArray} {x : At} (h : (declF x).isSome = false) (h2 : ¬ (preS x.name).size = 0) : accP ps x = putS ps (preS x.name) := by unfold accP; rw [if_neg (by rw [h]; exact Bool.false_ne_true), if_neg h2]
theorem accB_no {ts : List Tk} {k : Nat} {aL : List At} {x : At} (h : (declF x).isSome = true) : accB ts k aL x = aL := by unfold accB; rw [if_pos h]
theorem accB_put {ts : List Tk} {k : Nat} {aL : List At} {x : At} (h : (declF x).isSome = false) : accB ts k aL x = insA ts k aL x := by unfold accB; rw [if_neg (by rw [h]; exact Bool.false_ne_true)]

theorem preL7_all {nm : ByteArray} {b : Nat} (hb : (preS nm).size ≤ b) (l : List At) (hl : ∀ x ∈ l, (preS x.name).size ≤ b) : (preL7 nm l).length ≤ l.length + 1 ∧ 1 ≤ (preL7 nm l).length ∧ ∀ p ∈ preL7 nm l, p.size ≤ b := by
  unfold preL7
  have key : ∀ (l : List At) (ps : List ByteArray), (∀ x ∈ l, (preS x.name).size ≤ b) → 1 ≤ ps.length → (∀ p ∈ ps, p.size ≤ b) → (l.foldl accP ps).length ≤ ps.length + l.length ∧ 1 ≤ (l.foldl accP ps).length ∧ ∀ p ∈ l.foldl accP ps, p.size ≤ b := by
    intro l
    induction l with
    | nil => intro ps _ h1 h2; exact ⟨by simp, h1, h2⟩
    | cons x l ih =>
      intro ps h0 h1 h2
      have hx := h0 x (by simp)
      have h3 : (accP ps x).length ≤ ps.length + 1 ∧ 1 ≤ (accP ps x).length ∧ ∀ p ∈ accP ps x, p.size ≤ b := by
        unfold accP
        split
        · exact ⟨by omega, h1, h2⟩
        · split
          · exact ⟨by omega, h1, h2⟩
          · have := putS_len ps (preS x.name)
            refine ⟨this.1, by omega, fun p hp => ?_⟩
            rcases putS_mem hp with h' | h'
            · exact h2 p h'
            · rw [h']; exact hx
      obtain ⟨g1, g2, g3⟩ := ih (accP ps x) (fun y hy => h0 y (by simp [hy])) h3.2.1 h3.2.2
      rw [List.foldl_cons, List.length_cons]
      exact ⟨by omega, g2, g3⟩
  obtain ⟨g1, g2, g3⟩ := key l [preS nm] hl (by simp) (fun p hp => by rw [List.mem_singleton.1 hp]; exact hb)
  exact ⟨by simpa [Nat.add_comm] using g1, g2, g3⟩

theorem othL_all {ts : List Tk} {k : Nat} (l : List At) : (othL ts k l).length ≤ l.length ∧ ∀ y ∈ othL ts k l, y ∈ l := by
  unfold othL
  have key : ∀ (l : List At) (aL : List At), (l.foldl (accB ts k) aL).length ≤ aL.length + l.length ∧ ∀ y ∈ l.foldl (accB ts k) aL, y ∈ aL ∨ y ∈ l := by
    intro l
    induction l with
    | nil => intro aL; exact ⟨by simp, fun y hy => .inl hy⟩
    | cons x l ih =>
      intro aL
      have h3 : (accB ts k aL x).length ≤ aL.length + 1 ∧ ∀ y ∈ accB ts k aL x, y ∈ aL ∨ y = x := by
        unfold accB
        split
        · exact ⟨by omega, fun y hy => .inl hy⟩
        · exact ⟨by rw [insA_len]; exact Nat.le_refl _, fun y hy => insA_mem hy⟩
      obtain ⟨g1, g2⟩ := ih (accB ts k aL x)
      rw [List.foldl_cons, List.length_cons]
      refine ⟨by omega, fun y hy => ?_⟩
      rcases g2 y hy with h' | h'
      · rcases h3.2 y h' with h'' | h''
        · exact .inl h''
        · exact .inr (by rw [h'']; exact List.mem_cons_self ..)
      · exact .inr (List.mem_cons_of_mem _ h')
  obtain ⟨g1, g2⟩ := key l []
  exact ⟨by simpa using g1, fun y hy => (g2 y hy).resolve_left List.not_mem_nil⟩

/-- The name of a declaration. -/
def nmD (p : ByteArray) : ByteArray := if p.size = 0 then ⟨#[110, 115]⟩ else (⟨#[110, 115, 58]⟩ : ByteArray) ++ p

/-- It needs not be written. -/
noncomputable def skipB (sd : List At) (p m : ByteArray) : Bool := open Classical in match lastF sd p with | some x => decide (x = m) | none => decide (p.size = 0) && decide (m.size = 0)

noncomputable def dclS (s p m : ByteArray) : ByteArray := ((((s ++ (⟨#[32]⟩ : ByteArray)) ++ nmD p) ++ ⟨#[61, 34]⟩) ++ m) ++ ⟨#[34]⟩

noncomputable def mnF (ts : List Tk) (k : Nat) (p : ByteArray) : ByteArray := (meanF ts k p).getD ⟨#[]⟩

noncomputable def dclF (ts : List Tk) (k : Nat) (z : List At × ByteArray) (p : ByteArray) : List At × ByteArray := if skipB z.1 p (mnF ts k p) then z else (z.1 ++ [⟨p, mnF ts k p⟩], dclS z.2 p (mnF ts k p))

noncomputable def dclL (ts : List Tk) (k : Nat) (sd : List At) (s : ByteArray) (ps : List ByteArray) : List At × ByteArray := ps.foldl (dclF ts k) (sd, s)

theorem dclL_next {ts : List Tk} {k : Nat} {sd : List At} {s : ByteArray} {ps : List ByteArray} {i : Nat} (h : i < ps.length) : dclL ts k sd s (ps.take (i + 1)) = dclF ts k (dclL ts k sd s (ps.take i)) ps[i] := by
  unfold dclL
  rw [take_snocN h, List.foldl_append]
  rfl

theorem nmD_size (p : ByteArray) : (nmD p).size ≤ p.size + 3 := by
  unfold nmD
  split
  · exact Nat.le_add_left_of_le (by decide)
  · rw [ByteArray.size_append]
    have : (⟨#[110, 115, 58]⟩ : ByteArray).size = 3 := rfl
    omega

theorem dclS_size (s p m : ByteArray) : (dclS s p m).size ≤ s.size + p.size + m.size + 7 := by
  have h := nmD_size p
  have e1 : (⟨#[32]⟩ : ByteArray).size = 1 := rfl
  have e2 : (⟨#[61, 34]⟩ : ByteArray).size = 2 := rfl
  have e3 : (⟨#[34]⟩ : ByteArray).size = 1 := rfl
  unfold dclS
  simp only [ByteArray.size_append, e1, e2, e3]
  omega

theorem dclL_all {ts : List Tk} {k : Nat} (hz : TksSz 1048576 ts) (sd : List At) (s : ByteArray) (ps : List ByteArray) (hp : ∀ p ∈ ps, p.size ≤ 1048576) : (dclL ts k sd s ps).1.length ≤ sd.length + ps.length ∧ (dclL ts k sd s ps).2.size ≤ s.size + 2100000 * ps.length := by
  unfold dclL
  induction ps generalizing sd s with
  | nil => exact ⟨by simp, by simp⟩
  | cons p ps ih =>
    rw [List.foldl_cons, List.length_cons]
    have h1 := hp p (by simp)
    have h2 : (mnF ts k p).size ≤ 1048576 := meanF_sz hz p
    have h3 := dclS_size s p (mnF ts k p)
    unfold dclF
    simp only
    split
    · obtain ⟨g1, g2⟩ := ih sd s (fun q hq => hp q (by simp [hq]))
      unfold dclF at g1 g2
      exact ⟨by omega, by omega⟩
    · obtain ⟨g1, g2⟩ := ih (sd ++ [⟨p, mnF ts k p⟩]) (dclS s p (mnF ts k p)) (fun q hq => hp q (by simp [hq]))
      unfold dclF at g1 g2
      rw [List.length_append, List.length_singleton] at g1
      exact ⟨by omega, by omega⟩

theorem atsS_szC {l : List At} (hl : AtSz 1048576 l) (s : ByteArray) : (atsS l s).size ≤ s.size + 8000000 * l.length := by
  induction l generalizing s with
  | nil => simp [atsS]
  | cons x l ih =>
    have h1 := hl x (by simp)
    have h2 := atS_size x
    have h3 := ih (fun y hy => hl y (by simp [hy])) (s ++ atS x)
    rw [ByteArray.size_append] at h3
    show (atsS l (s ++ atS x)).size ≤ _
    rw [List.length_cons]
    omega

/-- A node and all it has but one, with what was said around it. -/
noncomputable def canonN (ts : List Tk) (but : Int) : Nat → Nat → List At → ByteArray
  | 0, _, _ => ⟨#[]⟩
  | f + 1, k, sd => if (k : Int) = but then ⟨#[]⟩ else if (nodeAt ts k).name.size = 0 then escS false (nodeAt ts k).text else
    (((kidsN ts k).foldl (fun s j => s ++ canonN ts but f j (dclL ts k sd ((⟨#[60]⟩ : ByteArray) ++ (nodeAt ts k).name) (preL7 (nodeAt ts k).name (nodeAt ts k).attrs)).1)
      (atsS (othL ts k (nodeAt ts k).attrs) (dclL ts k sd ((⟨#[60]⟩ : ByteArray) ++ (nodeAt ts k).name) (preL7 (nodeAt ts k).name (nodeAt ts k).attrs)).2 ++ ⟨#[62]⟩)
      ++ ⟨#[60, 47]⟩) ++ (nodeAt ts k).name) ++ ⟨#[62]⟩

/-- What stands ahead of the kids. -/
noncomputable def headS (ts : List Tk) (k : Nat) (sd : List At) (t : Tk) : ByteArray := atsS (othL ts k t.attrs) (dclL ts k sd ((⟨#[60]⟩ : ByteArray) ++ t.name) (preL7 t.name t.attrs)).2 ++ ⟨#[62]⟩

noncomputable def saidL (ts : List Tk) (k : Nat) (sd : List At) (t : Tk) : List At := (dclL ts k sd ((⟨#[60]⟩ : ByteArray) ++ t.name) (preL7 t.name t.attrs)).1

theorem canonN_but {ts : List Tk} {but : Int} {f k : Nat} {sd : List At} (h : (k : Int) = but) : canonN ts but (f + 1) k sd = ⟨#[]⟩ := by
  unfold canonN
  rw [if_pos h]

theorem canonN_text {ts : List Tk} {but : Int} {f k : Nat} {sd : List At} {t : Tk} (ht : nodeAt ts k = t) (h : ¬ (k : Int) = but) (h2 : t.name.size = 0) : canonN ts but (f + 1) k sd = escS false t.text := by
  subst ht
  unfold canonN
  rw [if_neg h, if_pos h2]

theorem canonN_el {ts : List Tk} {but : Int} {f k : Nat} {sd : List At} {t : Tk} (ht : nodeAt ts k = t) (h : ¬ (k : Int) = but) (h2 : ¬ t.name.size = 0) : canonN ts but (f + 1) k sd = (((kidsN ts k).foldl (fun s j => s ++ canonN ts but f j (saidL ts k sd t)) (headS ts k sd t) ++ ⟨#[60, 47]⟩) ++ t.name) ++ ⟨#[62]⟩ := by
  subst ht
  conv => lhs; unfold canonN
  rw [if_neg h, if_neg h2]
  rfl

theorem nodeAt_sz {ts : List Tk} (hz : TksSz 1048576 ts) (k : Nat) : TkSz 1048576 (nodeAt ts k) := by
  by_cases h : k < ts.length
  · rw [nodeAt_at h]; exact hz _ (List.getElem_mem h)
  · unfold nodeAt
    rw [List.getElem?_eq_none (by omega)]
    exact ⟨Nat.zero_le _, Nat.zero_le _, fun x hx => absurd hx List.not_mem_nil, Nat.zero_le _⟩

theorem six_at {ts : List Tk} (h : TreeP ts) (k : Nat) (hne : ¬ (nodeAt ts k).name.size = 0) : (nodeAt ts k).attrs.length ≤ 6 := by
  by_cases hk : k < ts.length
  · rw [nodeAt_at hk] at hne ⊢
    obtain ⟨⟨_, hb⟩, _⟩ := h.2.2.2.2 k hk
    rw [nodeB_el hne] at hb
    simp only [Bool.and_eq_true] at hb
    by_cases q : AttrsOk ts[k].attrs
    · exact q.1
    · rw [attrsB_f q] at hb
      cases hb.2.1
  · unfold nodeAt
    rw [List.getElem?_eq_none (by omega)]
    exact Nat.zero_le _

/-- Bounds of what stands ahead of the kids. -/
theorem head_all {ts : List Tk} {k : Nat} {sd : List At} {t : Tk} (hz : TksSz 1048576 ts) (ht : TkSz 1048576 t) (h6 : t.attrs.length ≤ 6) : (headS ts k sd t).size ≤ 65000000 ∧ (saidL ts k sd t).length ≤ sd.length + 7 := by
  obtain ⟨p1, p2, p3⟩ := preL7_all (b := 1048576) (preS_sz ht.1) t.attrs (fun x hx => preS_sz (ht.2.2.1 x hx).1)
  obtain ⟨d1, d2⟩ := dclL_all (k := k) hz sd ((⟨#[60]⟩ : ByteArray) ++ t.name) (preL7 t.name t.attrs) p3
  obtain ⟨o1, o2⟩ := othL_all (ts := ts) (k := k) t.attrs
  have a1 := atsS_szC (l := othL ts k t.attrs) (fun y hy => ht.2.2.1 y (o2 y hy)) (dclL ts k sd ((⟨#[60]⟩ : ByteArray) ++ t.name) (preL7 t.name t.attrs)).2
  have e1 : ((⟨#[60]⟩ : ByteArray) ++ t.name).size = 1 + t.name.size := by rw [ByteArray.size_append]; rfl
  have e2 : (⟨#[62]⟩ : ByteArray).size = 1 := rfl
  have := ht.1
  unfold headS saidL
  rw [ByteArray.size_append, e2]
  exact ⟨by omega, by omega⟩

theorem fold_size (g : Nat → ByteArray) (l : List Nat) (s : ByteArray) : (l.foldl (fun s j => s ++ g j) s).size = s.size + (l.map fun j => (g j).size).sum := by
  induction l generalizing s with
  | nil => simp
  | cons x l ih =>
    rw [List.foldl_cons, ih, ByteArray.size_append, List.map_cons, List.sum_cons]
    omega

theorem kids_sum {ts : List Tk} {k : Nat} (C : Nat) (L : Nat → Nat) (hk : k < ts.length) (hL : ∀ i, k < i → i < endN ts k → L i ≤ C * (endN ts i - i)) :
    ∀ e, k < e → e ≤ endN ts k → ∃ m, k + 1 ≤ m ∧ m ≤ endN ts k ∧ ((kidsTo ts k e).map L).sum ≤ C * (m - (k + 1)) ∧ ∀ j, e ≤ j → j < endN ts k → parI ts j = (k : Int) → m ≤ j := by
  have hle := endN_le hk
  intro e
  induction e with
  | zero => intro h; omega
  | succ e ih =>
    intro h1 h2
    by_cases he : e = k
    · subst he
      refine ⟨e + 1, Nat.le_refl _, h2, ?_, fun j hj _ _ => by omega⟩
      rw [kidsTo_first]
      simp
    · obtain ⟨m, m1, m2, m3, m4⟩ := ih (by omega) (by omega)
      rw [kidsTo_next (by omega)]
      by_cases q : parI ts e = (k : Int)
      · rw [if_pos q, List.map_append, List.sum_append]
        obtain ⟨q1, q2⟩ := kid_end hk (show k < e by omega) (by omega)
        have hm := m4 e (Nat.le_refl _) (by omega) q
        have hl := hL e (by omega) (by omega)
        have he2 := endN_le (ts := ts) (k := e) (by omega)
        refine ⟨endN ts e, by omega, q1, ?_, fun j hj hjn hp => q2 j (by omega) (by omega) hp⟩
        simp only [List.map_cons, List.map_nil, List.sum_cons, List.sum_nil]
        have h5 : C * (m - (k + 1)) ≤ C * (e - (k + 1)) := Nat.mul_le_mul_left _ (by omega)
        have h6 : C * (e - (k + 1)) + C * (endN ts e - e) = C * (endN ts e - (k + 1)) := by rw [← Nat.mul_add]; congr 1; omega
        omega
      · rw [if_neg q, List.append_nil]
        exact ⟨m, m1, m2, m3, fun j hj hjn hp => m4 j (by omega) hjn hp⟩

theorem kidsTo_end {ts : List Tk} (h : TreeP ts) {k : Nat} (hk : k < ts.length) : kidsN ts k = kidsTo ts k (endN ts k) := by
  have hle := endN_le hk
  have key : ∀ d, endN ts k + d ≤ ts.length → kidsTo ts k (endN ts k + d) = kidsTo ts k (endN ts k) := by
    intro d
    induction d with
    | zero => intro _; rfl
    | succ d ih =>
      intro hd
      rw [← Nat.add_assoc, kidsTo_next (by omega), if_neg (no_kid h hk (by omega) (by omega)), List.append_nil]
      exact ih (by omega)
  have := key (ts.length - endN ts k) (by omega)
  rw [show endN ts k + (ts.length - endN ts k) = ts.length by omega] at this
  exact this

/-- It is not long. -/
theorem canon_size {ts : List Tk} (hT : TreeP ts) (hz : TksSz 1048576 ts) (but : Int) : ∀ f k sd, k < ts.length → (canonN ts but f k sd).size ≤ 70000000 * (endN ts k - k)
  | 0, k, sd, _ => Nat.zero_le _
  | f + 1, k, sd, hk => by
    have hle := endN_le hk
    have hm : 70000000 * 1 ≤ 70000000 * (endN ts k - k) := Nat.mul_le_mul_left _ (by omega)
    have hsz := nodeAt_sz hz k
    by_cases hb : (k : Int) = but
    · rw [canonN_but hb]
      exact Nat.zero_le _
    · by_cases hn : (nodeAt ts k).name.size = 0
      · rw [canonN_text rfl hb hn]
        have h1 := escS_size false (nodeAt ts k).text
        have h2 := hsz.2.2.2
        omega
      · rw [canonN_el rfl hb hn]
        have h1 := (head_all (k := k) (sd := sd) hz hsz (six_at hT k hn)).1
        obtain ⟨m, m1, m2, m3, _⟩ := kids_sum 70000000 (fun j => (canonN ts but f j (saidL ts k sd (nodeAt ts k))).size) hk (fun i h1 h2 => canon_size hT hz but f i _ (by omega)) (endN ts k) hle.1 (Nat.le_refl _)
        have e1 : (⟨#[60, 47]⟩ : ByteArray).size = 2 := rfl
        have e2 : (⟨#[62]⟩ : ByteArray).size = 1 := rfl
        rw [ByteArray.size_append, ByteArray.size_append, ByteArray.size_append, fold_size, kidsTo_end hT hk, e1, e2]
        have h3 : 70000000 * (m - (k + 1)) ≤ 70000000 * (endN ts k - (k + 1)) := Nat.mul_le_mul_left _ (by omega)
        have h4 : 70000000 * (endN ts k - (k + 1)) + 70000000 * 1 = 70000000 * (endN ts k - k) := by rw [← Nat.mul_add]; congr 1; omega
        have h5 := hsz.1
        omega

/-- Of some kids. -/
theorem kids_size {ts : List Tk} (hT : TreeP ts) (hz : TksSz 1048576 ts) (but : Int) (f : Nat) (sd : List At) (l : List Nat) (hl : ∀ j ∈ l, j < ts.length) (hn : l.length ≤ 50) (s : ByteArray) : (l.foldl (fun s j => s ++ canonN ts but f j sd) s).size ≤ s.size + 3500000000 * l.length := by
  rw [fold_size]
  have h50 : ts.length ≤ 50 := hT.2.1
  have key : ∀ l : List Nat, (∀ j ∈ l, j < ts.length) → (l.map fun j => (canonN ts but f j sd).size).sum ≤ 3500000000 * l.length := by
    intro l
    induction l with
    | nil => intro _; simp
    | cons x l ih =>
      intro hl
      have h1 := canon_size hT hz but f x sd (hl x (by simp))
      have h2 := endN_le (hl x (by simp))
      have h3 : 70000000 * (endN ts x - x) ≤ 70000000 * 50 := Nat.mul_le_mul_left _ (by omega)
      have h4 := ih (fun y hy => hl y (by simp [hy]))
      rw [List.map_cons, List.sum_cons, List.length_cons]
      omega
  have := key l hl
  omega

end Go.Proofs.YtkejmifkjgpdjaaGreat

namespace Go.Proofs.YtkejmifkjgpdjaaGreat
open Go.RowKit
set_option linter.unusedVariables false
set_option linter.unusedSimpArgs false

/-- What is known in the first loop. -/
structure Lp2 (W0 wr : World) (ts : List Tk) (k : Nat) (nm : ByteArray) (l : List At) (i : Nat) (v12 v13 : Value) (np m : Nat) : Prop where
  bel : Below W0.heap.size W0 wr
  ps : Rd wr 1 v12 np (keyV (preL7 nm (l.take i)))
  oth : Rd wr 2 v13 m (atC (othL ts k (l.take i)))
  hi : i ≤ l.length
  hnp : (preL7 nm (l.take i)).length = np
  hm : (othL ts k (l.take i)).length = m

theorem Lp2.below {W0 wr w' : World} {ts : List Tk} {k : Nat} {nm : ByteArray} {l : List At} {i : Nat} {v12 v13 : Value} {np m : Nat} (h : Lp2 W0 wr ts k nm l i v12 v13 np m) (hb : Below wr.heap.size wr w') : Lp2 W0 w' ts k nm l i v12 v13 np m :=
  ⟨bb h.bel hb, h.ps.below hb, h.oth.below hb, h.hi, h.hnp, h.hm⟩

theorem Lp2.few {W0 wr : World} {ts : List Tk} {k : Nat} {nm : ByteArray} {l : List At} {i : Nat} {v12 v13 : Value} {np m : Nat} (h : Lp2 W0 wr ts k nm l i v12 v13 np m) (hz : AtSz 1048576 l) (hn : nm.size ≤ 1048576) : np ≤ i + 1 ∧ m ≤ i ∧ (∀ p ∈ preL7 nm (l.take i), p.size ≤ 1048576) ∧ ∀ y ∈ othL ts k (l.take i), y ∈ l := by
  obtain ⟨h1, _, h3⟩ := preL7_all (b := 1048576) (preS_sz hn) (l.take i) (fun x hx => preS_sz (hz x (List.mem_of_mem_take hx)).1)
  obtain ⟨g1, g2⟩ := othL_all (ts := ts) (k := k) (l.take i)
  have hti : (l.take i).length = i := by rw [List.length_take]; have := h.hi; omega
  rw [hti, h.hnp] at h1
  rw [hti, h.hm] at g1
  exact ⟨h1, g1, h3, fun y hy => List.mem_of_mem_take (g2 y hy)⟩

/-- A declaration is passed by. -/
theorem Lp2.skip {W0 wr : World} {ts : List Tk} {k : Nat} {nm : ByteArray} {l : List At} {i : Nat} {v12 v13 : Value} {np m : Nat} (h : Lp2 W0 wr ts k nm l i v12 v13 np m) (hi : i < l.length) (hd : (declF l[i]).isSome = true) : Lp2 W0 wr ts k nm l (i + 1) v12 v13 np m := by
  have e1 := preL7_next (nm := nm) hi
  have e2 := othL_next (ts := ts) (k := k) hi
  rw [accP_no hd] at e1
  rw [accB_no hd] at e2
  exact ⟨h.bel, by rw [e1]; exact h.ps, by rw [e2]; exact h.oth, hi, by rw [e1]; exact h.hnp, by rw [e2]; exact h.hm⟩

/-- Another one. -/
theorem Lp2.next {W0 wr w' : World} {ts : List Tk} {k : Nat} {nm : ByteArray} {l : List At} {i : Nat} {v12 v13 v12' v13' : Value} {np m j : Nat} {P' : List ByteArray} (h : Lp2 W0 wr ts k nm l i v12 v13 np m) (hi : i < l.length) (hd : (declF l[i]).isSome = false) (hb : Below W0.heap.size W0 w')
    (hP : accP (preL7 nm (l.take i)) l[i] = P') (hps : Rd w' 1 v12' P'.length (keyV P')) (hj : insN ts k (othL ts k (l.take i)) l[i] = j) (hoth : Rd w' 2 v13' (m + 1) (atC ((othL ts k (l.take i)).take j ++ l[i] :: (othL ts k (l.take i)).drop j))) : Lp2 W0 w' ts k nm l (i + 1) v12' v13' P'.length (m + 1) := by
  have e1 := preL7_next (nm := nm) hi
  have e2 := othL_next (ts := ts) (k := k) hi
  rw [hP] at e1
  rw [accB_put hd] at e2
  have e3 := insA_is hj
  refine ⟨hb, by rw [e1]; exact hps, by rw [e2, e3]; exact hoth, hi, by rw [e1], ?_⟩
  rw [e2, insA_len, h.hm]

/-- A node in a box. -/
theorem box4_at {W0 wr : World} {g : Nat} {x y z u : Value} {T : TypeId} (h : W0.heap[g]? = some (.cells #[x, y, z, u] T (0, 0))) (hb : Below W0.heap.size W0 wr) : wr.cell? ⟨g, 0, none⟩ = some x ∧ wr.cell? ⟨g, 1, none⟩ = some y ∧ wr.cell? ⟨g, 2, none⟩ = some z ∧ wr.cell? ⟨g, 3, none⟩ = some u := (box4 (blk_below h hb)).1

theorem at_cells {W0 wr : World} {a : Option Addr} {l : List At} (h : AtRow W0 a l) (hb : Below W0.heap.size W0 wr) {i : Nat} (hi : i < l.length) : ∃ b o, a = some ⟨b, o, none⟩ ∧ b < wr.heap.size ∧ wr.cell? ⟨b, o + i * 2, none⟩ = some (.string l[i].name) ∧ wr.cell? ⟨b, o + i * 2 + 1, none⟩ = some (.string l[i].value) := (h.below hb) i hi

/-- What is known while declarations are written. -/
structure Lp3 (W1 wr : World) (ts : List Tk) (k : Nat) (sd : List At) (S0 : ByteArray) (P : List ByteArray) (q : Nat) (sa : Option Addr) (ns : Nat) (S : ByteArray) : Prop where
  bel : Below W1.heap.size W1 wr
  said : AtRow wr sa (dclL ts k sd S0 (P.take q)).1
  len : (dclL ts k sd S0 (P.take q)).1.length = ns
  str : (dclL ts k sd S0 (P.take q)).2 = S

theorem Lp3.start {W1 wr : World} {ts : List Tk} {k : Nat} {sd : List At} {S0 : ByteArray} {P : List ByteArray} {sa : Option Addr} {ns : Nat} (h : AtRow wr sa sd) (hn : sd.length = ns) (hb : Below W1.heap.size W1 wr) : Lp3 W1 wr ts k sd S0 P 0 sa ns S0 := ⟨hb, h, hn, rfl⟩

theorem Lp3.below {W1 wr w' : World} {ts : List Tk} {k : Nat} {sd : List At} {S0 : ByteArray} {P : List ByteArray} {q : Nat} {sa : Option Addr} {ns : Nat} {S : ByteArray} (h : Lp3 W1 wr ts k sd S0 P q sa ns S) (hb : Below wr.heap.size wr w') : Lp3 W1 w' ts k sd S0 P q sa ns S := ⟨bb h.bel hb, h.said.below hb, h.len, h.str⟩

theorem Lp3.few {W1 wr : World} {ts : List Tk} {k : Nat} {sd : List At} {S0 : ByteArray} {P : List ByteArray} {q : Nat} {sa : Option Addr} {ns : Nat} {S : ByteArray} (h : Lp3 W1 wr ts k sd S0 P q sa ns S) (hz : TksSz 1048576 ts) (hp : ∀ p ∈ P, p.size ≤ 1048576) : ns ≤ sd.length + q ∧ S.size ≤ S0.size + 2100000 * q := by
  obtain ⟨h1, h2⟩ := dclL_all (k := k) hz sd S0 (P.take q) (fun p hp' => hp p (List.mem_of_mem_take hp'))
  rw [h.len] at h1
  rw [h.str] at h2
  have hl : (P.take q).length ≤ q := List.length_take_le _ _
  have h3 : 2100000 * (P.take q).length ≤ 2100000 * q := Nat.mul_le_mul_left _ hl
  exact ⟨by omega, by omega⟩

/-- It needs not be written. -/
theorem Lp3.skip {W1 wr : World} {ts : List Tk} {k : Nat} {sd : List At} {S0 : ByteArray} {P : List ByteArray} {q : Nat} {sa : Option Addr} {ns : Nat} {S : ByteArray} (h : Lp3 W1 wr ts k sd S0 P q sa ns S) (hq : q < P.length) (hs : skipB (dclL ts k sd S0 (P.take q)).1 P[q] (mnF ts k P[q]) = true) : Lp3 W1 wr ts k sd S0 P (q + 1) sa ns S := by
  have e : dclL ts k sd S0 (P.take (q + 1)) = dclL ts k sd S0 (P.take q) := by
    rw [dclL_next hq]
    unfold dclF
    rw [if_pos hs]
  exact ⟨h.bel, by rw [e]; exact h.said, by rw [e]; exact h.len, by rw [e]; exact h.str⟩

/-- It is. -/
theorem Lp3.next {W1 wr w' : World} {ts : List Tk} {k : Nat} {sd : List At} {S0 : ByteArray} {P : List ByteArray} {q : Nat} {sa sa' : Option Addr} {ns : Nat} {S : ByteArray} (h : Lp3 W1 wr ts k sd S0 P q sa ns S) (hq : q < P.length) (hs : skipB (dclL ts k sd S0 (P.take q)).1 P[q] (mnF ts k P[q]) = false) (hb : Below W1.heap.size W1 w')
    (hr : AtRow w' sa' ((dclL ts k sd S0 (P.take q)).1 ++ [⟨P[q], mnF ts k P[q]⟩])) : Lp3 W1 w' ts k sd S0 P (q + 1) sa' (ns + 1) (dclS S P[q] (mnF ts k P[q])) := by
  have e : dclL ts k sd S0 (P.take (q + 1)) = ((dclL ts k sd S0 (P.take q)).1 ++ [⟨P[q], mnF ts k P[q]⟩], dclS (dclL ts k sd S0 (P.take q)).2 P[q] (mnF ts k P[q])) := by
    rw [dclL_next hq]
    unfold dclF
    rw [if_neg (by rw [hs]; exact Bool.false_ne_true)]
  refine ⟨hb, by rw [e]; exact hr, ?_, ?_⟩
  · rw [e]
    show (_ ++ [_]).length = _
    rw [List.length_append, h.len]
    rfl
  · rw [e]
    show dclS _ _ _ = _
    rw [h.str]

/-- All that stands firm while a node is written. -/
structure CanX (b o cap : Nat) (ts : List Tk) (n k : Nat) (but : Int) (f : Nat) (sd : List At) (ns : Nat) (sa : Option Addr) (w W0 : World) (K : Int) (nm : ByteArray) (l : List At) (nA : Nat) (aa : Option Addr) (ca : Nat) (tx : ByteArray) : Prop where
  tree : TreeP ts
  sz : TksSz 1048576 ts
  len : ts.length = n
  kn : k < n
  nsl : sd.length = ns
  nsk : ns ≤ 10 * k
  na : l.length = nA
  na6 : nA ≤ 6
  tks : TkSz 1048576 ⟨K, nm, l, tx⟩
  node : nodeAt ts k = ⟨K, nm, l, tx⟩
  bel : Below w.heap.size w W0
  box : W0.heap[w.heap.size]? = some (.cells #[.int .i64 K, .string nm, .slice aa nA ca, .string tx] 44 (0, 0))
  row : TkRow W0 (some ⟨b, o, none⟩) ts
  ats : AtRow W0 aa l
  said : AtRow W0 sa sd
  ih : ∀ (j : Nat) (sd' : List At) (sa' : Option Addr) (sc' : Nat) (wx : World), TkRow wx (some ⟨b, o, none⟩) ts → j < n → k < j → AtRow wx sa' sd' → sd'.length ≤ 10 * j → Calls Tryz.prog 19 #[.slice (some ⟨b, o, none⟩) n cap, .int .i64 (j : Int), .int .i64 but, .slice sa' sd'.length sc'] wx fun e w' => e = .returned (.string (canonN ts but f j sd')) ∧ Below wx.heap.size wx w'

section
variable {b o cap : Nat} {ts : List Tk} {n k : Nat} {but : Int} {f : Nat} {sd : List At} {ns : Nat} {sa : Option Addr} {w W0 : World} {K : Int} {nm : ByteArray} {l : List At} {nA : Nat} {aa : Option Addr} {ca : Nat} {tx : ByteArray}

theorem CanX.nms (X : CanX b o cap ts n k but f sd ns sa w W0 K nm l nA aa ca tx) : nm.size ≤ 1048576 := X.tks.1

theorem CanX.asz (X : CanX b o cap ts n k but f sd ns sa w W0 K nm l nA aa ca tx) : AtSz 1048576 l := X.tks.2.2.1

theorem CanX.n50 (X : CanX b o cap ts n k but f sd ns sa w W0 K nm l nA aa ca tx) : n ≤ 50 := by rw [← X.len]; exact X.tree.2.1

theorem CanX.cm (X : CanX b o cap ts n k but f sd ns sa w W0 K nm l nA aa ca tx) (p : ByteArray) (wx : World) (hb : Below W0.heap.size W0 wx) (hp : p.size ≤ 1048576) :
    Calls Tryz.prog 33 #[.slice (some ⟨b, o, none⟩) n cap, .int .i64 (k : Int), .string p] wx fun e w' => e = .returned (.tuple #[.string ((meanF ts k p).getD ⟨#[]⟩), .bool (meanF ts k p).isSome]) ∧ Below wx.heap.size wx w' := by
  have h50 := X.n50
  have hk := X.kn
  have h := c_spec_l9Meaning (some ⟨b, o, none⟩) cap ts k p wx (X.row.below hb) X.tree (by rw [X.len]; exact hk) (by rw [X.len]; omega) X.sz hp
  rw [X.len] at h
  exact h

theorem CanX.ck (X : CanX b o cap ts n k but f sd ns sa w W0 K nm l nA aa ca tx) (wx : World) (hb : Below W0.heap.size W0 wx) :
    Calls Tryz.prog 45 #[.slice (some ⟨b, o, none⟩) n cap, .int .i64 (k : Int)] wx fun e w' => ∃ v, e = .returned v ∧ w'.ownsRow wx.heap.size 2 1 v (kidsN ts k).length (intC (kidsN ts k)) ∧ Below wx.heap.size wx w' := by
  have h50 := X.n50
  have hk := X.kn
  have h := cKidsS (some ⟨b, o, none⟩) cap ts k wx (X.row.below hb) (by rw [X.len]; exact hk) (by rw [X.len]; omega)
  rw [X.len] at h
  exact h

theorem CanX.ca' (X : CanX b o cap ts n k but f sd ns sa w W0 K nm l nA aa ca tx) (x y : At) (wx : World) (hb : Below W0.heap.size W0 wx) (hx : x.name.size ≤ 1048576) (hy : y.name.size ≤ 1048576) :
    Calls Tryz.prog 42 #[.slice (some ⟨b, o, none⟩) n cap, .int .i64 (k : Int), .agg #[.string x.name, .string x.value], .agg #[.string y.name, .string y.value]] wx fun e w' => e = .returned (.bool (aheadF ts k x y)) ∧ Below wx.heap.size wx w' := by
  have h50 := X.n50
  have hk := X.kn
  have h := c_spec_l11Ahead (some ⟨b, o, none⟩) cap ts k x y wx (X.row.below hb) X.tree (by rw [X.len]; exact hk) (by rw [X.len]; omega) X.sz hx hy
  rw [X.len] at h
  exact h

theorem CanX.cells (X : CanX b o cap ts n k but f sd ns sa w W0 K nm l nA aa ca tx) {wx : World} (hb : Below W0.heap.size W0 wx) : wx.cell? ⟨w.heap.size, 1, none⟩ = some (.string nm) ∧ wx.cell? ⟨w.heap.size, 2, none⟩ = some (.slice aa nA ca) := ⟨(box4_at X.box hb).2.1, (box4_at X.box hb).2.2.1⟩

end

theorem infoSd : (Tryz.prog.info? 76).map (fun i => (i.zero, i.size, i.bytes)) = some (some (.agg #[.string ⟨#[]⟩, .string ⟨#[]⟩]), 2, 32) := by kernel_rfl

/-- As the program asks it. -/
theorem skip_is (sd : List At) (p m : ByteArray) : skipB sd p m = (((lastF sd p).isSome && (((lastF sd p).getD ⟨#[]⟩).toList == m.toList)) || ((!(lastF sd p).isSome && p.toList.isEmpty) && m.toList.isEmpty)) := by
  unfold skipB
  rw [empty_is, empty_is, str_beq]
  cases lastF sd p with
  | none => simp
  | some x => simp

theorem sl_fromA (b o L cap k : Nat) (h : k ≤ L) (hL : L ≤ cap) (W : World) : (Instr.slice 42 (.slice (some ⟨b, o, none⟩) L cap) (some (.int .i64 k)) none none).run Tryz.prog W = .ok (.slice (some (if cap = k then ⟨b, o, none⟩ else ⟨b, o + k * 2, none⟩)) (L - k) (cap - k)) W := by
  have h' : (k : Int) ≤ L := by omega
  have h2 : (L : Int) ≤ cap := by omega
  go_simp
  by_cases e : cap = k <;> simp [e, Addr.add]

theorem sl_uptoA (b o L cap k : Nat) (h : k ≤ L) (hL : L ≤ cap) (W : World) : (Instr.slice 42 (.slice (some ⟨b, o, none⟩) L cap) none (some (.int .i64 k)) none).run Tryz.prog W = .ok (.slice (some ⟨b, o, none⟩) k cap) W := by
  have h' : (k : Int) ≤ L := by omega
  have h2 : (k : Int) ≤ cap := by omega
  have h3 : ¬ cap < k := by omega
  go_simp

/-- Ahead of the first loop. -/
theorem start_lp {W0 w1 : World} {ts : List Tk} {k : Nat} {nm : ByteArray} {l : List At} (hb : Below W0.heap.size W0 w1) : Lp2 W0 ((w1.alloc (.cells #[.string (preS nm)] 9)).alloc (.cells #[] 62)) ts k nm l 0 (.slice (some ⟨w1.heap.size, 0, none⟩) 1 1) (.slice (some ⟨w1.heap.size + 1, 0, none⟩) 0 0) 1 0 := by
  have HL1 := (Below.refl w1.heap.size w1).alloc (Nat.le_refl _) (.cells #[.string (preS nm)] 9)
  have HL2 := HL1.alloc HL1.size (.cells #[] 62)
  have HP2 := (Rd.new w1 9 1 [.string (preS nm)] 1 rfl).below ((Below.refl _ _).alloc (Nat.le_refl _) (.cells #[] 62))
  have HO2 := Rd.own (own_new (w1.alloc (.cells #[.string (preS nm)] 9)) 62 2)
  have eh : (w1.alloc (.cells #[.string (preS nm)] 9)).heap.size = w1.heap.size + 1 := by simp
  rw [eh] at HO2
  exact ⟨bb hb HL2, HP2, HO2, Nat.zero_le _, rfl, rfl⟩

set_option maxRecDepth 8000 in
set_option maxHeartbeats 16000000 in
theorem canon_el {b o cap : Nat} {ts : List Tk} {n k : Nat} {but : Int} {f : Nat} {sd : List At} {ns : Nat} {sa : Option Addr} {sc : Nat} {w W0 : World} {K : Int} {nm : ByteArray} {l : List At} {nA : Nat} {aa : Option Addr} {ca : Nat} {tx : ByteArray}
    (X : CanX b o cap ts n k but f sd ns sa w W0 K nm l nA aa ca tx) (hW0 : w.alloc (.cells #[.int .i64 K, .string nm, .slice aa nA ca, .string tx] 44) = W0) (q0 : w.cell? ⟨b, o + k * 4, none⟩ = some (.int .i64 K)) (q1 : w.cell? ⟨b, o + k * 4 + 1, none⟩ = some (.string nm)) (q2 : w.cell? ⟨b, o + k * 4 + 2, none⟩ = some (.slice aa nA ca)) (q3 : w.cell? ⟨b, o + k * 4 + 3, none⟩ = some (.string tx))
    (hbb : ((k : Int) == but) = false) (hne : nm.toList.isEmpty = false) (R : ByteArray) (HF : Hid (R = (((kidsN ts k).foldl (fun s j => s ++ canonN ts but f j (saidL ts k sd ⟨K, nm, l, tx⟩)) (headS ts k sd ⟨K, nm, l, tx⟩) ++ ⟨#[60, 47]⟩) ++ nm) ++ ⟨#[62]⟩)) :
    Calls Tryz.prog 19 #[.slice (some ⟨b, o, none⟩) n cap, .int .i64 (k : Int), .int .i64 but, .slice sa ns sc] w fun e w' => e = .returned (.string R) ∧ Below w.heap.size w w' := by
  have hkn : (k : Int) < (n : Int) := by have := X.kn; omega
  obtain ⟨c1, c2⟩ := X.cells (Below.refl _ W0)
  have CP := hid (cPartsX nm W0 X.nms)
  have hna6 := X.na6
  have XX := hid X
  clear X
  go_enter Tryz.func19, Tryz.ntmps19
  go_wp2_with fail
  refine CP.out.mono ?_
  rintro e w1 ⟨rfl, hb1⟩
  have HX := hid (start_lp (ts := ts) (k := k) (nm := nm) (l := l) hb1)
  clear hb1 CP c1 c2 q0 q1 q2 q3 hW0 hbb hne
  go_wp2_with fail
  go_loopw [12, 13, 14] (fun v12 v13 x wr => ∃ i np m pb po pc ob oo oc : Nat, x = .int .i64 (i : Int) ∧ v12 = .slice (some ⟨pb, po, none⟩) np pc ∧ v13 = .slice (some ⟨ob, oo, none⟩) m oc ∧ Hid (Lp2 W0 wr ts k nm l i (.slice (some ⟨pb, po, none⟩) np pc) (.slice (some ⟨ob, oo, none⟩) m oc) np m)) (fun _ _ x _ => nA - (intOf x).toNat)
  case atStart => exact ⟨0, 1, 0, _, _, _, _, _, _, rfl, rfl, rfl, HX.out⟩
  case round =>
    clear HX
    obtain ⟨i, np, m, pb, po, pc, ob, oo, oc, rfl, rfl, rfl, ST⟩ := hrel
    obtain ⟨d1, d2⟩ := XX.out.cells ST.out.bel
    have hi : i ≤ nA := by rw [← XX.out.na]; exact ST.out.hi
    by_cases hlt : i < nA
    case neg =>
      have hie : i = nA := by omega
      obtain ⟨W1, hW1⟩ : ∃ W, W = wr := ⟨_, rfl⟩
      subst hW1
      have hall : l.take i = l := List.take_of_length_le (by rw [XX.out.na]; omega)
      have hfew := ST.out.few XX.out.asz XX.out.nms
      have HP := hid ST.out.ps
      have HO := hid ST.out.oth
      have HNP := hid ST.out.hnp
      have HNM := hid ST.out.hm
      have HB1 := hid ST.out.bel
      rw [hall] at HP HO HNP HNM hfew
      have HFW := hid hfew.2.2
      obtain ⟨hnp6, hm6, -, -⟩ := hfew
      have hS0 : nm.size ≤ 1048576 := XX.out.nms
      obtain ⟨S0, hS0e⟩ : ∃ S0, (⟨#[60]⟩ : ByteArray) ++ nm = S0 := ⟨_, rfl⟩
      have HS0 := hid hS0e
      have hs0 : S0.size = 1 + nm.size := by rw [← hS0e, ByteArray.size_append]; rfl
      have HX := hid (Lp3.start (ts := ts) (k := k) (S0 := S0) (P := preL7 nm l) (XX.out.said.below HB1.out) XX.out.nsl (Below.refl W1.heap.size W1))
      have hinn : ¬ (i : Int) < (nA : Int) := by omega
      have hnp7 : np ≤ 7 := by omega
      have hm7 : m ≤ 6 := by omega
      clear hall ST hie hlt hi hnp6 hm6
      go_wp2_with fail
      clear d1 d2 hS0e hinn
      go_loopw [3, 21, 22] (fun v3 s x wr => ∃ (q ns' sc' : Nat) (sa' : Option Addr) (S : ByteArray), x = .int .i64 (q : Int) ∧ v3 = .slice sa' ns' sc' ∧ s = .string S ∧ q ≤ np ∧ Hid (Lp3 W1 wr ts k sd S0 (preL7 nm l) q sa' ns' S)) (fun _ _ x _ => np - (intOf x).toNat)
      case atStart => exact ⟨0, ns, sc, sa, S0, rfl, rfl, rfl, Nat.zero_le _, HX.out⟩
      case round =>
        clear HX
        obtain ⟨q, ns', sc', sa', S, rfl, rfl, rfl, hq, T3⟩ := hrel
        by_cases hqn : q < np
        case neg =>
          have hall : (preL7 nm l).take q = preL7 nm l := List.take_of_length_le (by rw [HNP.out]; omega)
          obtain ⟨hns6, hS6⟩ := T3.out.few XX.out.sz HFW.out.1
          have HSA := hid (And.intro T3.out.said T3.out.len)
          have HST := hid T3.out.str
          rw [hall, ← HS0.out] at HSA HST
          have HSA := hid (show AtRow wr sa' (saidL ts k sd ⟨K, nm, l, tx⟩) ∧ (saidL ts k sd ⟨K, nm, l, tx⟩).length = ns' from HSA.out)
          have HSD := hid (show headS ts k sd ⟨K, nm, l, tx⟩ = atsS (othL ts k l) S ++ ⟨#[62]⟩ by rw [← HST.out]; rfl)
          have HB3 := hid (bb HB1.out T3.out.bel)
          have HOW := hid (HO.out.below T3.out.bel)
          obtain ⟨W3, hW3⟩ : ∃ W, W = wr := ⟨_, rfl⟩
          subst hW3
          have hqq : ¬ (q : Int) < (np : Int) := by omega
          have hSz : S.size ≤ 16000000 := by omega
          have hnsk : ns' ≤ 10 * k + 7 := by have := XX.out.nsk; have := XX.out.nsl; omega
          clear hall T3 HST HP HO HNP HB1 hqn hq hS6 hns6 hs0 hS0
          go_wp2_with fail
          clear hqq
          go_loopw [21, 28] (fun s x wr => ∃ (r : Nat) (S' : ByteArray), x = .int .i64 (r : Int) ∧ s = .string S' ∧ r ≤ m ∧ S'.size ≤ 16000000 + 8000000 * r ∧ Hid (S' = atsS ((othL ts k l).take r) S ∧ Below W3.heap.size W3 wr)) (fun _ x _ => m - (intOf x).toNat)
          case atStart => exact ⟨0, S, rfl, rfl, Nat.zero_le _, by omega, by rw [List.take_zero]; rfl, Below.refl _ _⟩
          case round =>
            obtain ⟨r, S', rfl, rfl, hr, hS', T4⟩ := hrel
            by_cases hrm : r < m
            · have hrl : r < (othL ts k l).length := by rw [HNM.out]; exact hrm
              have hri : (r : Int) < (m : Int) := by omega
              have HOR := hid (HOW.out.below T4.out.2)
              obtain ⟨ob2, oo2, oc2, eo2, hob2, _, x1, x2⟩ := HOR.out.pair hrl
              obtain ⟨rfl, rfl⟩ : ob = ob2 ∧ oo = oo2 := by cases eo2; exact ⟨rfl, rfl⟩
              obtain ⟨z1, z2⟩ := XX.out.asz _ (HFW.out.2 _ (List.getElem_mem hrl))
              have CL := hid (cL7Attr (othL ts k l)[r] wr z1 z2)
              have hat := atS_size (othL ts k l)[r]
              have hat2 : (atS (othL ts k l)[r]).size ≤ 8000000 := by omega
              have HSN := hid (show S' ++ atS (othL ts k l)[r] = atsS ((othL ts k l).take (r + 1)) S by rw [take_snocN hrl, atsS_snoc, ← T4.out.1])
              generalize atS (othL ts k l)[r] = AS at *
              generalize (othL ts k l)[r].name = xn at *
              generalize (othL ts k l)[r].value = xv at *
              clear eo2 hob2 HOR hat z1 z2
              go_wp2_with fail
              refine CL.out.mono ?_
              rintro e w2 ⟨rfl, hb2⟩
              have HBN := hid (bb T4.out.2 hb2)
              have hsz : (S' ++ AS).size ≤ 16000000 + 8000000 * (r + 1) := by rw [ByteArray.size_append]; omega
              have HSZ := hid hsz
              clear hb2 CL x1 x2 hsz
              go_wp2_with fail
              go_roundw
              case rel => exact ⟨r + 1, S' ++ AS, by go_num, rfl, by omega, HSZ.out, HSN.out, HBN.out⟩
              case measure => simp [intOf]; omega
            · have hre : r = m := by omega
              have HHD := hid (show S' ++ ⟨#[62]⟩ = headS ts k sd ⟨K, nm, l, tx⟩ by
                rw [HSD.out, T4.out.1, List.take_of_length_le (by rw [HNM.out, hre]; exact Nat.le_refl _)])
              have hrr : ¬ (r : Int) < (m : Int) := by omega
              have hS7 : S'.size ≤ 64000000 := by omega
              have CK := hid (XX.out.ck wr (bb HB3.out T4.out.2))
              have HB4 := hid (bb HB3.out T4.out.2)
              have HA4 := hid (And.intro (HSA.out.1.below T4.out.2) HSA.out.2)
              clear hre hrm hr hS' T4 HSD HSA HB3 HOW HFW HNM HS0
              go_wp2_with fail
              refine CK.out.mono ?_
              rintro e w5 ⟨v5, rfl, hk5, hb5⟩
              obtain ⟨⟨ka, kc, hv5⟩, _⟩ := row64 hk5
              have HK5 := hid hk5
              have HB5 := hid (bb HB4.out hb5)
              have HA5 := hid (And.intro (HA4.out.1.below hb5) HA4.out.2)
              have HKL := hid (show ∀ j ∈ kidsN ts k, j < n from fun j hj => by rw [← XX.out.len]; exact kidsN_lt hj)
              have HKG := hid (show ∀ j ∈ kidsN ts k, k < j from fun j hj => by
                have := (List.mem_filter.1 hj).2
                simp only [Bool.and_eq_true, decide_eq_true_eq] at this
                exact this.1)
              have hkl : (kidsN ts k).length ≤ 50 := by
                have := kidsTo_len ts k ts.length
                have h2 : ts.length ≤ 50 := by rw [XX.out.len]; exact XX.out.n50
                unfold kidsN
                omega
              obtain ⟨H0, hH0⟩ : ∃ H, S' ++ (⟨#[62]⟩ : ByteArray) = H := ⟨_, rfl⟩
              have hH0s : H0.size ≤ 65000000 := by
                rw [← hH0, ByteArray.size_append]
                have : (⟨#[62]⟩ : ByteArray).size = 1 := rfl
                omega
              have HH0 := hid (show H0 = headS ts k sd ⟨K, nm, l, tx⟩ by rw [← hH0]; exact HHD.out)
              rw [← HH0.out] at HF
              subst hv5
              simp only [hH0]
              obtain ⟨SDF, hSDF⟩ : ∃ SDF, saidL ts k sd ⟨K, nm, l, tx⟩ = SDF := ⟨_, rfl⟩
              rw [hSDF] at HF HA5
              have CIH := hid (fun (j : Nat) (wx : World) (hb : Below w5.heap.size w5 wx) (hj : j ∈ kidsN ts k) => XX.out.ih j SDF sa' sc' wx (XX.out.row.below (bb HB5.out hb)) (HKL.out j hj) (HKG.out j hj) (HA5.out.1.below hb) (by rw [HA5.out.2]; have := HKG.out j hj; omega))
              rw [HA5.out.2] at CIH
              have HCS := hid (fun (j : Nat) (hj : j ∈ kidsN ts k) => canon_size XX.out.tree XX.out.sz but f j SDF (by rw [XX.out.len]; exact HKL.out j hj))
              have HFS := hid (fun (r : Nat) => kids_size XX.out.tree XX.out.sz but f SDF ((kidsN ts k).take r) (fun j hj => by rw [XX.out.len]; exact HKL.out j (List.mem_of_mem_take hj)) (Nat.le_trans (List.length_take_le' _ _) hkl) H0)
              obtain ⟨nk, hnk⟩ : ∃ nk, (kidsN ts k).length = nk := ⟨_, rfl⟩
              have HNK := hid hnk
              rw [hnk] at hkl HK5 ⊢
              clear hb5 hk5 CK HB4 HA4 HHD hrr hS7 hnk hH0 HKG hSDF
              go_wp2_with fail
              go_loopw [21, 30] (fun s x wr => ∃ (r : Nat) (S' : ByteArray), x = .int .i64 (r : Int) ∧ s = .string S' ∧ r ≤ nk ∧ Hid (S' = ((kidsN ts k).take r).foldl (fun s j => s ++ canonN ts but f j SDF) H0 ∧ Below w5.heap.size w5 wr)) (fun _ x _ => nk - (intOf x).toNat)
              case atStart => exact ⟨0, H0, rfl, rfl, Nat.zero_le _, by rw [List.take_zero]; rfl, Below.refl _ _⟩
              case round =>
                obtain ⟨r, S', rfl, rfl, hr, T5⟩ := hrel
                have hS' : S'.size ≤ 65000000 + 3500000000 * r := by
                  have h := HFS.out r
                  rw [← T5.out.1] at h
                  have hl : ((kidsN ts k).take r).length ≤ r := List.length_take_le _ _
                  have h3 : 3500000000 * ((kidsN ts k).take r).length ≤ 3500000000 * r := Nat.mul_le_mul_left _ hl
                  omega
                by_cases hrk : r < nk
                · have hrl : r < (kidsN ts k).length := by rw [HNK.out]; exact hrk
                  have hri : (r : Int) < (nk : Int) := by omega
                  obtain ⟨g5, c5, eg, hg5, x1⟩ := (row64 (show w5.ownsRow _ 2 1 (.slice ka nk kc) (kidsN ts k).length (intC (kidsN ts k)) by rw [HNK.out]; exact HK5.out)).2 r hrl
                  rw [HNK.out] at eg
                  obtain ⟨rfl, rfl⟩ : ka = some ⟨g5, 0, none⟩ ∧ kc = c5 := by cases eg; exact ⟨rfl, rfl⟩
                  have y1 := (T5.out.2.cell (p := ⟨g5, r, none⟩) hg5).trans x1
                  have hmem := List.getElem_mem hrl
                  have CI := hid (CIH.out (kidsN ts k)[r] wr T5.out.2 hmem)
                  have hcs : (canonN ts but f (kidsN ts k)[r] SDF).size ≤ 3500000000 := by
                    have h1 := HCS.out _ hmem
                    have h2 := endN_le (ts := ts) (k := (kidsN ts k)[r]) (by rw [XX.out.len]; exact HKL.out _ hmem)
                    have h3 : ts.length ≤ 50 := by rw [XX.out.len]; exact XX.out.n50
                    have h4 : 70000000 * (endN ts (kidsN ts k)[r] - (kidsN ts k)[r]) ≤ 70000000 * 50 := Nat.mul_le_mul_left _ (by omega)
                    omega
                  have HSN := hid (show S' ++ canonN ts but f (kidsN ts k)[r] SDF = ((kidsN ts k).take (r + 1)).foldl (fun s j => s ++ canonN ts but f j SDF) H0 by rw [take_snocN hrl, List.foldl_append, ← T5.out.1]; rfl)
                  generalize canonN ts but f (kidsN ts k)[r] SDF = CN at *
                  generalize (kidsN ts k)[r] = jj at *
                  clear eg x1 hg5 hmem
                  go_wp2_with fail
                  refine CI.out.mono ?_
                  rintro e w2 ⟨rfl, hb2⟩
                  have HBN := hid (bb T5.out.2 hb2)
                  clear hb2 CI y1
                  go_wp2_with fail
                  go_roundw
                  case rel => exact ⟨r + 1, S' ++ CN, by go_num, rfl, by omega, HSN.out, HBN.out⟩
                  case measure => simp [intOf]; omega
                · have hre : r = nk := by omega
                  have hrr : ¬ (r : Int) < (nk : Int) := by omega
                  have HFIN := hid (show R = ((S' ++ ⟨#[60, 47]⟩) ++ nm) ++ ⟨#[62]⟩ by rw [HF.out, T5.out.1, List.take_of_length_le (by rw [HNK.out, hre]; exact Nat.le_refl _)])
                  obtain ⟨d1, d2⟩ := XX.out.cells (bb HB5.out T5.out.2)
                  have HBF := hid (bb XX.out.bel (bb HB5.out T5.out.2))
                  have hnm8 : nm.size ≤ 1048576 := XX.out.nms
                  clear hre hrk T5 HF HCS HFS CIH HK5 HA5
                  go_wp2_with fail
                  go_ret
                  exact ⟨by rw [HFIN.out]; rfl, HBF.out⟩
        have hqP : q < (preL7 nm l).length := by rw [HNP.out]; exact hqn
        have hqi : (q : Int) < (np : Int) := by omega
        have HPQ := hid (HP.out.below T3.out.bel)
        obtain ⟨pb2, po2, pc2, ep2, hpb2, _, x1⟩ := HPQ.out.key hqP
        obtain ⟨rfl, rfl⟩ : pb = pb2 ∧ po = po2 := by cases ep2; exact ⟨rfl, rfl⟩
        have hpz : (preL7 nm l)[q].size ≤ 1048576 := HFW.out.1 _ (List.getElem_mem hqP)
        have CMN := hid (XX.out.cm (preL7 nm l)[q] wr (bb HB1.out T3.out.bel) hpz)
        obtain ⟨hns6, hS6⟩ := T3.out.few XX.out.sz HFW.out.1
        have CLL := hid (fun wx (hb : Below wr.heap.size wr wx) => c_spec_l11Last sa' sc' (dclL ts k sd S0 ((preL7 nm l).take q)).1 (preL7 nm l)[q] wx (T3.out.said.below hb) (by rw [T3.out.len]; have := XX.out.nsk; have := XX.out.nsl; have := XX.out.kn; have := XX.out.n50; omega))
        rw [T3.out.len] at CLL
        have hmz : ((meanF ts k (preL7 nm l)[q]).getD ⟨#[]⟩).size ≤ 1048576 := meanF_sz XX.out.sz _
        have HSK := hid (show skipB (dclL ts k sd S0 ((preL7 nm l).take q)).1 (preL7 nm l)[q] (mnF ts k (preL7 nm l)[q]) = _ from skip_is _ _ _)
        have HMN := hid (show mnF ts k (preL7 nm l)[q] = (meanF ts k (preL7 nm l)[q]).getD ⟨#[]⟩ from rfl)
        have HT3S := hid (fun wx (hb : Below wr.heap.size wr wx) h => (T3.out.below hb).skip hqP h)
        have HT3N := hid (fun wx sax h (hb : Below W1.heap.size W1 wx) hr => T3.out.next (w' := wx) (sa' := sax) hqP h hb hr)
        rw [HMN.out] at HSK HT3S HT3N
        have HSA := hid (And.intro T3.out.said T3.out.len)
        generalize (dclL ts k sd S0 ((preL7 nm l).take q)).1 = SD at *
        generalize (preL7 nm l)[q] = p at *
        generalize (meanF ts k p).getD ⟨#[]⟩ = M at *
        generalize (meanF ts k p).isSome = MI at *
        generalize (lastF SD p).isSome = LI at *
        generalize (lastF SD p).getD ⟨#[]⟩ = LV at *
        have HEP := hid (empty_is p)
        obtain ⟨BE, hBE⟩ : ∃ B, (LV.toList == M.toList) = B := ⟨_, rfl⟩
        obtain ⟨BP, hBP⟩ : ∃ B, p.toList.isEmpty = B := ⟨_, rfl⟩
        obtain ⟨BM, hBM⟩ : ∃ B, M.toList.isEmpty = B := ⟨_, rfl⟩
        rw [hBE, hBP, hBM] at HSK
        rw [hBP] at HEP
        obtain ⟨SK, hSK⟩ : ∃ B, skipB SD p M = B := ⟨_, rfl⟩
        rw [hSK] at HSK HT3S HT3N
        have HSD := hid T3.out
        have HLN := hid (show ns' ≤ 600 by have := XX.out.nsk; have := XX.out.nsl; have := XX.out.kn; have := XX.out.n50; omega)
        have hns7 := HLN.out
        have HPZ := hid hpz
        clear hSK ep2 hpz hns6 HMN HPQ
        go_wp2_with fail
        refine CMN.out.mono ?_
        rintro e w2 ⟨rfl, hb2⟩
        have HB2 := hid hb2
        have y1 := (hb2.cell (p := ⟨pb, po + q, none⟩) hpb2).trans x1
        have CL2 := hid (CLL.out _ hb2)
        have hpb3 := Nat.lt_of_lt_of_le hpb2 hb2.size
        clear hb2 CMN x1 CLL hpb2
        go_wp2_with fail
        refine CL2.out.mono ?_
        rintro e w3 ⟨rfl, hb3⟩
        have HB3 := hid (bb HB2.out hb3)
        have z1 := (hb3.cell (p := ⟨pb, po + q, none⟩) hpb3).trans y1
        have HPB := hid (Nat.lt_of_lt_of_le hpb3 hb3.size)
        clear hb3 CL2 y1 HB2 hpb3
        go_upto_region 28 with fail
        go_cut [173] from 128 to 202 (fun c wv => c = .bool SK ∧ wv = w3)
        case first =>
          cases LI with
          | true =>
            cases BE with
            | true =>
              go_wp2_with fail
              go_meet
              exact ⟨by rw [HSK.out]; rfl, rfl⟩
            | false =>
              go_wp2_with fail
              go_meet
              exact ⟨by rw [HSK.out]; rfl, rfl⟩
          | false =>
            cases BP with
            | false =>
              go_wp2_with fail
              go_meet
              exact ⟨by rw [HSK.out]; rfl, rfl⟩
            | true =>
              cases BM with
              | true =>
                go_wp2_with fail
                go_meet
                exact ⟨by rw [HSK.out]; rfl, rfl⟩
              | false =>
                go_wp2_with fail
                go_meet
                exact ⟨by rw [HSK.out]; rfl, rfl⟩
        case rest =>
          obtain ⟨rfl, rfl⟩ := hcut
          clear hBE hBM HSK
          cases SK with
          | true =>
            have TN := hid (HT3S.out _ HB3.out (by trivial))
            clear HT3S HT3N HSD
            go_wp2_with fail
            go_roundw
            case rel => exact ⟨q + 1, ns', sc', sa', S, by go_num, rfl, rfl, by omega, TN.out⟩
            case measure => simp [intOf]; omega
          | false =>
            obtain ⟨i0, iI, hz0, hz1, hz2⟩ := info_parts infoSd
            obtain ⟨w5, hw5e⟩ : ∃ W, W = wc := ⟨_, rfl⟩
            subst hw5e
            have HU7 := hid (AtRow.sr (c := sc') (HSA.out.1.below HB3.out) HSA.out.2)
            have hw5 : (w5.alloc (.cells #[] 76)).heap.size = w5.heap.size + 1 := by simp
            have hw6 : (w5.alloc (.cells #[.string p, .string M] 76)).heap.size = w5.heap.size + 1 := by simp
            have KP := hid (show ∀ wx, Below w5.heap.size w5 wx → wx.cell? ⟨pb, po + q, none⟩ = some (.string p) from fun wx hb => (hb.cell (p := ⟨pb, po + q, none⟩) HPB.out).trans z1)
            have B0 := hid ((Below.refl w5.heap.size w5).drew)
            have B1 := hid (((Below.refl w5.heap.size w5).alloc (Nat.le_refl _) (.cells #[] 76)).drew)
            have B2 := hid ((((Below.refl w5.heap.size w5).alloc (Nat.le_refl _) (.cells #[] 76)).alloc (by simp) (.cells #[.string p, .string M] 76)).drew)
            have B3 := hid (((Below.refl w5.heap.size w5).alloc (Nat.le_refl _) (.cells #[.string p, .string M] 76)).drew)
            have B4 := hid ((((Below.refl w5.heap.size w5).alloc (Nat.le_refl _) (.cells #[.string p, .string M] 76)).alloc (by simp) (.cells #[] 76)).drew)
            have F1 := hid (show ((w5.alloc (.cells #[] 76)).drew).ownsRow w5.heap.size 76 2 (.slice (some ⟨w5.heap.size, 0, none⟩) 0 0) 0 [] from own_new w5 76 2)
            have F2 := hid (show (((w5.alloc (.cells #[] 76)).alloc (.cells #[.string p, .string M] 76)).drew).ownsRow w5.heap.size 76 2 (.slice (some ⟨w5.heap.size, 0, none⟩) 0 0) 0 [] from (own_new w5 76 2).alloc (.cells #[.string p, .string M] 76))
            have F3 := hid (show (((w5.alloc (.cells #[.string p, .string M] 76)).alloc (.cells #[] 76)).drew).ownsRow w5.heap.size 76 2 (.slice (some ⟨w5.heap.size + 1, 0, none⟩) 0 0) 0 [] from by have h := own_base (own_new (w5.alloc (.cells #[.string p, .string M] 76)) 76 2) (show w5.heap.size ≤ (w5.alloc (.cells #[.string p, .string M] 76)).heap.size by simp); rw [hw6] at h; exact h)
            have X2 := hid (show Rd (((w5.alloc (.cells #[] 76)).alloc (.cells #[.string p, .string M] 76)).drew) 2 (.slice (some ⟨w5.heap.size + 1, 0, none⟩) 1 1) 1 (atC [⟨p, M⟩]) from by have h := Rd.new (w5.alloc (.cells #[] 76)) 76 2 (atC [⟨p, M⟩]) 1 rfl; rw [hw5] at h; exact ⟨h.at_, h.len⟩)
            have X3 := hid (show Rd (((w5.alloc (.cells #[.string p, .string M] 76)).alloc (.cells #[] 76)).drew) 2 (.slice (some ⟨w5.heap.size, 0, none⟩) 1 1) 1 (atC [⟨p, M⟩]) from by have h := (Rd.new w5 76 2 (atC [⟨p, M⟩]) 1 rfl).below ((Below.refl _ _).alloc (Nat.le_refl _) (.cells #[] 76)); exact ⟨h.at_, h.len⟩)
            have K0 := hid (KP.out _ B0.out)
            have K1 := hid (KP.out _ B1.out)
            have K2 := hid (KP.out _ B2.out)
            have K3 := hid (KP.out _ B3.out)
            have K4 := hid (KP.out _ B4.out)
            have HBc := B0
            clear hw5 hw6 z1 HT3S
            go_wp2_with fail
            go_region_held3 (fun w' => w'.cell? ⟨pb, po + q, none⟩ = some (.string p)) (first | with_reducible exact K0.out | with_reducible exact K1.out | with_reducible exact K2.out | with_reducible exact K3.out | with_reducible exact K4.out | with_reducible exact KP.out _ HBc.out | with_reducible exact KP.out _ (HBc.out.alloc HBc.out.size _))
              (first
                | (refine step_src rfl (.tmp 174) (.tmp 175) 70 rfl 76 i0 _ 2 32 Tryz.underlying70 iI hz0 hz1 hz2 rfl (by decide) w5.heap.size w5.heap.size 0 0 ns' [] (atC SD) _ (by simp [Act.eval, Act.put]) (by simp [Act.eval, Act.put]) F1.out (HU7.out.below B1.out) (atC_cell _) (by omega) (by omega) B1.out.size ns' (by omega) (atC SD) rfl ?_; intro g6 c6 w6 ho6 hb6 hg6; have HO6 := hid ho6; replace HBc := hid (B1.out.trans hb6); clear ho6 hb6 hg6)
                | (refine step_src rfl (.tmp 174) (.tmp 175) 70 rfl 76 i0 _ 2 32 Tryz.underlying70 iI hz0 hz1 hz2 rfl (by decide) w5.heap.size w5.heap.size 0 0 ns' [] (atC SD) _ (by simp [Act.eval, Act.put]) (by simp [Act.eval, Act.put]) F2.out (HU7.out.below B2.out) (atC_cell _) (by omega) (by omega) B2.out.size ns' (by omega) (atC SD) rfl ?_; intro g6 c6 w6 ho6 hb6 hg6; have HO6 := hid ho6; have HX6 := hid (X2.out.grown hg6 (by omega)); replace HBc := hid (B2.out.trans hb6); clear ho6 hb6 hg6)
                | (refine step_src rfl (.tmp 174) (.tmp 175) 70 rfl 76 i0 _ 2 32 Tryz.underlying70 iI hz0 hz1 hz2 rfl (by decide) w5.heap.size (w5.heap.size + 1) 0 0 ns' [] (atC SD) _ (by simp [Act.eval, Act.put]) (by simp [Act.eval, Act.put]) F3.out (HU7.out.below B4.out) (atC_cell _) (by omega) (by omega) B4.out.size ns' (by omega) (atC SD) rfl ?_; intro g6 c6 w6 ho6 hb6 hg6; have HO6 := hid ho6; have HX6 := hid (X3.out.grown hg6 (by omega)); replace HBc := hid (B4.out.trans hb6); clear ho6 hb6 hg6)
                | (refine step_own rfl (.tmp 176) (.tmp 183) 70 rfl 76 i0 _ 2 32 Tryz.underlying70 iI hz0 hz1 hz2 rfl (by decide) w5.heap.size g6 c6 ns' 1 (atC SD) (atC [⟨p, M⟩]) _ (by simp [Act.eval, Act.put]) (by simp [Act.eval, Act.put]) HO6.out HX6.out (atC_cell _) (by omega) (by omega) HBc.out.size (ns' + 1) (by omega) (atC (SD ++ [⟨p, M⟩])) (by rw [atC_app]) ?_; intro g8 c8 w8 ho8 hb8 hg8; have HO8 := hid ho8; replace HBc := hid (HBc.out.trans hb8); clear ho8 hb8 hg8)
                | (refine step_own rfl (.tmp 176) (.tmp 183) 70 rfl 76 i0 _ 2 32 Tryz.underlying70 iI hz0 hz1 hz2 rfl (by decide) w5.heap.size g6 c6 ns' 1 (atC SD) (atC [⟨p, M⟩]) _ (by simp [Act.eval, Act.put]) (by simp [Act.eval, Act.put]) (HO6.out.alloc _) (Rd.new w6 76 2 (atC [⟨p, M⟩]) 1 rfl) (atC_cell _) (by omega) (by omega) (HBc.out.alloc HBc.out.size _).size (ns' + 1) (by omega) (atC (SD ++ [⟨p, M⟩])) (by rw [atC_app]) ?_; intro g8 c8 w8 ho8 hb8 hg8; have HO8 := hid ho8; replace HBc := hid ((HBc.out.alloc HBc.out.size (.cells #[.string p, .string M] 76)).trans hb8); clear ho8 hb8 hg8))
            all_goals (
              rename_i hHeld
              have HKK := hid hHeld
              have TN := hid (HT3N.out w8 (some ⟨g8, 0, none⟩) (by trivial) (bb (bb HSD.out.bel HB3.out) HBc.out) (Rd.own HO8.out).ats)
              have HND := hid (show nmD p = if BP = true then ⟨#[110, 115]⟩ else (⟨#[110, 115, 58]⟩ : ByteArray) ++ p by unfold nmD; rw [HEP.out]; by_cases h : p.size = 0 <;> simp [h])
              have HDS := hid (show dclS S p M = ((((S ++ (⟨#[32]⟩ : ByteArray)) ++ nmD p) ++ ⟨#[61, 34]⟩) ++ M) ++ ⟨#[34]⟩ from rfl)
              have hpz2 : p.size ≤ 1048576 := HPZ.out
              clear HO8 HO6 HBc B0 B1 B2 B3 B4 F1 F2 F3 X2 X3 K0 K1 K2 K3 K4 KP HU7 HB3 HT3N HSD HEP
              cases BP with
              | true =>
                have HNE := hid (show nmD p = ⟨#[110, 115]⟩ from HND.out)
                rw [HNE.out] at HDS
                go_wp2_with fail
                go_roundw
                case rel => exact ⟨q + 1, ns' + 1, c8, _, _, by go_num, rfl, by rw [← HDS.out], by omega, TN.out⟩
                case measure => (simp [intOf]; omega)
              | false =>
                have HNE := hid (show nmD p = (⟨#[110, 115, 58]⟩ : ByteArray) ++ p from HND.out)
                rw [HNE.out] at HDS
                go_wp2_with fail
                go_roundw
                case rel => exact ⟨q + 1, ns' + 1, c8, _, _, by go_num, rfl, by rw [← HDS.out], by omega, TN.out⟩
                case measure => (simp [intOf]; omega))
    have his : i < l.length := by rw [XX.out.na]; exact hlt
    have hin : (i : Int) < (nA : Int) := by omega
    clear HF
    obtain ⟨ab, ao, ea, hab, x1, x2⟩ := at_cells XX.out.ats ST.out.bel his
    have CD := hid (fun wx => c_spec_l9Declares l[i] wx (XX.out.asz _ (List.getElem_mem his)).1)
    subst ea
    cases hdc : (declF l[i]).isSome with
    | true =>
      have HSK := hid (fun wx (hb : Below wr.heap.size wr wx) => (ST.out.below hb).skip his hdc)
      rw [hdc] at CD
      clear hdc ST XX
      generalize (declF l[i]).getD ⟨#[]⟩ = DD at *
      generalize l[i].name = xn at *
      generalize l[i].value = xv at *
      go_wp2_with fail
      refine (CD.out _).mono ?_
      rintro e w2 ⟨rfl, hb2⟩
      have HX2 := hid (HSK.out _ hb2)
      clear hb2 CD HSK x1 x2 d1 d2
      go_wp2_with fail
      go_roundw
      case rel => exact ⟨i + 1, np, m, pb, po, pc, ob, oo, oc, by go_num, rfl, rfl, HX2.out⟩
      case measure => simp [intOf]; omega
    | false =>
      have CPX := hid (fun wx => cPartsX l[i].name wx (XX.out.asz _ (List.getElem_mem his)).1)
      have HDC := hid hdc
      have EP := empty_is (preS l[i].name)
      obtain ⟨P', hP'⟩ : ∃ P', accP (preL7 nm (l.take i)) l[i] = P' := ⟨_, rfl⟩
      have HPP := hid hP'
      obtain ⟨PX, hPX⟩ : ∃ PX, preS l[i].name = PX := ⟨_, rfl⟩
      have HPX := hid hPX
      rw [hPX] at CPX EP
      obtain ⟨T0, hT0⟩ : ∃ T0, decide (PX.size = 0) = T0 := ⟨_, rfl⟩
      have HT0 := hid hT0
      rw [hT0] at EP
      rw [hdc] at CD
      clear hdc hP' hPX hT0
      go_wp2_with fail
      refine (CD.out _).mono ?_
      rintro e w2 ⟨rfl, hb2⟩
      have ST2 := hid (ST.out.below hb2)
      obtain ⟨e1, e2⟩ := XX.out.cells ST2.out.bel
      have y1 := (hb2.cell (p := ⟨ab, ao + i * 2, none⟩) hab).trans x1
      clear hb2 CD x1 x2 d1 d2 ST hab
      go_wp2_with fail
      refine (CPX.out _).mono ?_
      rintro e w3 ⟨rfl, hb3⟩
      have ST3 := hid (ST2.out.below hb3)
      clear hb3 CPX y1 e1 e2 ST2
      go_upto_if 81 with fail
      go_cut [12] from 53 to 124 (fun v wv => ∃ pb' po' pc' : Nat, v = .slice (some ⟨pb', po', none⟩) P'.length pc' ∧ Hid (Rd wv 1 v P'.length (keyV P') ∧ Below w3.heap.size w3 wv))
      case first =>
        cases T0 with
        | true =>
          have HE := hid (show P' = preL7 nm (l.take i) by rw [← HPP.out]; exact accP_none HDC.out (by rw [HPX.out]; simpa using HT0.out))
          have HRP := hid (show Rd w3 1 (.slice (some ⟨pb, po, none⟩) np pc) np (keyV P') by rw [HE.out]; exact ST3.out.ps)
          have HLP := hid (show P'.length = np by rw [HE.out]; exact ST3.out.hnp)
          go_wp2_with fail
          go_meet
          exact ⟨pb, po, pc, by rw [HLP.out], by rw [HLP.out]; exact HRP.out, Below.refl _ _⟩
        | false =>
          have CPT := hid (c_spec_l11Put (preL7 nm (l.take i)) (.slice (some ⟨pb, po, none⟩) np pc) PX w3 (by rw [ST3.out.hnp]; exact ST3.out.ps) (by rw [ST3.out.hnp]; have := (ST3.out.few XX.out.asz XX.out.nms).1; omega))
          have HE := hid (show putS (preL7 nm (l.take i)) PX = P' by rw [← HPP.out, ← HPX.out]; exact (accP_put HDC.out (by rw [HPX.out]; simpa using HT0.out)).symm)
          rw [HE.out] at CPT
          go_wp2_with fail
          refine CPT.out.mono ?_
          rintro e w4 ⟨v4, rfl, hr4, hb4⟩
          obtain ⟨b4, o4, c4, ev, _⟩ := hr4.at_
          have HR4 := hid hr4
          have HB4 := hid hb4
          subst ev
          clear hr4 hb4
          go_wp2_with fail
          go_meet
          exact ⟨b4, o4, c4, rfl, HR4.out, HB4.out⟩
      case rest =>
        obtain ⟨pb', po', pc', rfl, HC⟩ := hcut
        obtain ⟨Wc, hWc⟩ : ∃ W, W = wc := ⟨_, rfl⟩
        subst hWc
        have ST4 := hid (ST3.out.below HC.out.2)
        have HPW := hid HC.out.1
        have hm6 := (ST4.out.few XX.out.asz XX.out.nms).2.1
        obtain ⟨J, hJ⟩ : ∃ J, insN ts k (othL ts k (l.take i)) l[i] = J := ⟨_, rfl⟩
        have HJ := hid hJ
        have hJm : J ≤ m := by
          rw [← hJ, ← ST4.out.hm]
          exact insN_le _ _ _ _
        clear HC hJ ST3 EP HT0 HPX T0
        go_wp2_with fail
        go_loopw [19] (fun y wr => ∃ j : Nat, y = .int .i64 (j : Int) ∧ j ≤ J ∧ Hid (Below Wc.heap.size Wc wr)) (fun y _ => J - (intOf y).toNat)
        case atStart => exact ⟨0, rfl, Nat.zero_le _, Below.refl _ _⟩
        case round =>
          obtain ⟨j, rfl, hj, HB2⟩ := hrel
          have ST5 := hid (ST4.out.below HB2.out)
          go_upto_region 18 with fail
          go_cut [103] from 85 to 105 (fun c wv => c = .bool (decide (j < J)) ∧ Hid (Below wr.heap.size wr wv))
          case first =>
            obtain ⟨d1, d2⟩ := XX.out.cells ST5.out.bel
            have HNB := hid (bw_any wr)
            by_cases hjm : j < m
            · have hjl : j < (othL ts k (l.take i)).length := by rw [ST5.out.hm]; exact hjm
              have hjn : decide ((j : Int) < (m : Int)) = true := by simp; omega
              have hjn2 : (j : Int) < (m : Int) := by omega
              obtain ⟨ab2, ao2, ea2, hab2, x1, x2⟩ := at_cells XX.out.ats ST5.out.bel his
              obtain ⟨rfl, rfl⟩ : ab = ab2 ∧ ao = ao2 := by cases ea2; exact ⟨rfl, rfl⟩
              obtain ⟨ob2, oo2, oc2, eo2, hob2, _, y1, y2⟩ := ST5.out.oth.pair hjl
              obtain ⟨rfl, rfl, rfl⟩ : ob = ob2 ∧ oo = oo2 ∧ oc = oc2 := by cases eo2; exact ⟨rfl, rfl, rfl⟩
              obtain ⟨f1, f2⟩ := pair_bw hab2 x1 x2
              obtain ⟨g1, g2⟩ := pair_bw hob2 y1 y2
              have hlw := lt_of_heap (blk_below XX.out.box ST5.out.bel)
              have k2 : ∀ p : BW wr, p.w.cell? ⟨w.heap.size, 2, none⟩ = some (.slice (some ⟨ab, ao, none⟩) nA ca) := fun p => (p.h.cell (p := ⟨w.heap.size, 2, none⟩) hlw).trans d2
              have hsz := (XX.out.asz _ (List.getElem_mem his)).1
              have hsy := (XX.out.asz _ ((ST5.out.few XX.out.asz XX.out.nms).2.2.2 _ (List.getElem_mem hjl))).1
              have CAA := hid (fun p : BW wr => XX.out.ca' l[i] (othL ts k (l.take i))[j] p.w (bb ST5.out.bel p.h) hsz hsy)
              have HAH := hid (show (!aheadF ts k l[i] (othL ts k (l.take i))[j]) = decide (j < J) by
                rcases Nat.lt_or_eq_of_le hj with h' | h'
                · rw [insN_low (by rw [HJ.out]; exact h') hjl, decide_eq_true h']; rfl
                · rw [insN_at (by rw [HJ.out]; exact h'.symm) hjl, decide_eq_false (by omega)]; rfl)
              generalize aheadF ts k l[i] (othL ts k (l.take i))[j] = AH at *
              generalize l[i].name = xn at *
              generalize l[i].value = xv at *
              generalize (othL ts k (l.take i))[j].name = yn at *
              generalize (othL ts k (l.take i))[j].value = yv at *
              clear x1 x2 y1 y2 ea2 eo2 hsz hsy d1 d2 hab2 hob2 hlw
              haveI := HNB.out
              refine wp_region_below (by kernel_rfl) (by kernel_rfl) (Below.refl wr.heap.size wr) ?_
              repeat (go_big_quiet_step ((go_at_call 42; exact calls_bw _ (CAA.out _))))
              refine wpQuiet_nil ?_
              intro _ hw'
              obtain ⟨⟨wq, hwq⟩, hw''⟩ := hw'
              subst hw''
              have HWQ := hid hwq
              clear hwq f1 f2 g1 g2 k2
              go_wp2_with fail
              go_meet
              exact ⟨by rw [← HAH.out], HWQ.out⟩
            · have hjn : decide ((j : Int) < (m : Int)) = false := by simp; omega
              have HJJ := hid (show decide (j < J) = false by simp; omega)
              clear d1 d2
              haveI := HNB.out
              refine wp_region_below (by kernel_rfl) (by kernel_rfl) (Below.refl wr.heap.size wr) ?_
              repeat (go_big_quiet_step (fail))
              refine wpQuiet_nil ?_
              intro _ hw'
              obtain ⟨⟨wq, hwq⟩, hw''⟩ := hw'
              subst hw''
              have HWQ := hid hwq
              clear hwq
              go_wp2_with fail
              go_meet
              exact ⟨by rw [HJJ.out], HWQ.out⟩
          case rest =>
            obtain ⟨rfl, HD⟩ := hcut
            by_cases hjJ : j < J
            · have HBN := hid (bb HB2.out HD.out)
              rw [decide_eq_true hjJ]
              clear HD HB2 ST5
              go_wp2_with fail
              go_roundw
              case rel => exact ⟨j + 1, by go_num, by omega, HBN.out⟩
              case measure => simp [intOf]; omega
            · rw [decide_eq_false hjJ]
              obtain rfl : J = j := by omega
              have ST6 := hid (ST5.out.below HD.out)
              have HP6 := hid ((HPW.out.below HB2.out).below HD.out)
              clear ST5 HD HB2 HPW ST4 hj hjJ
              obtain ⟨L, hL⟩ : ∃ L, othL ts k (l.take i) = L := ⟨_, rfl⟩
              have HL := hid hL
              have HOT := hid ST6.out.oth
              have hoc : m ≤ oc := by
                obtain ⟨_, _, _, eo, _, h, _⟩ := HOT.out.at_
                cases eo
                exact h
              rw [hL] at HOT
              have HML := hid (show L.length = m by rw [← hL]; exact ST6.out.hm)
              have HRF := hid (HOT.out.from hJm)
              have HRU := hid (HOT.out.upto hJm)
              rw [atC_drop] at HRF
              rw [atC_take] at HRU
              have hfr := sl_fromA ob oo m oc J hJm hoc
              have hup := sl_uptoA ob oo m oc J hJm hoc
              generalize (if oc = J then (⟨ob, oo, none⟩ : Addr) else ⟨ob, oo + J * 2, none⟩) = A1 at *
              obtain ⟨i0, iI, hz0, hz1, hz2⟩ := info_parts infoAtW
              have HB1 := hid ((Below.refl wc.heap.size wc).alloc (Nat.le_refl _) (.cells #[] 62))
              have HO1 := hid (own_new wc 62 2)
              have HF1 := hid (HRF.out.below HB1.out)
              clear hL HOT
              go_wp2_with (at_builtin; refine wpL_own _ rfl _ _ _ rfl 62 i0 _ 2 32 Tryz.underlying42 iI hz0 hz1 hz2 rfl (by decide) wc.heap.size wc.heap.size 0 0 (m - J) [] (atC (L.drop J)) _ rfl rfl HO1.out HF1.out (atC_cell _) (by omega) (by omega) HB1.out.size (m - J) (by omega) (atC (L.drop J)) rfl ?_)
              intro g5 c5 w5 ho5 hb5
              have HB5 := hid (HB1.out.trans hb5)
              have HRS := hid (Rd.own ho5)
              have ST7 := hid (ST6.out.below HB5.out)
              have HP7 := hid (HP6.out.below HB5.out)
              have HU7 := hid (HRU.out.below HB5.out)
              clear ho5 hb5 hfr HO1 HF1 HB1 HRF HRU ST6 HP6 HB5
              obtain ⟨xn, hxn⟩ : ∃ xn, l[i].name = xn := ⟨_, rfl⟩
              obtain ⟨xv, hxv⟩ : ∃ xv, l[i].value = xv := ⟨_, rfl⟩
              have HXN := hid (And.intro hxn hxv)
              have KP := hid (show ∀ wx, Below w5.heap.size w5 wx → wx.cell? ⟨w.heap.size, 2, none⟩ = some (.slice (some ⟨ab, ao, none⟩) nA ca) ∧ wx.cell? ⟨ab, ao + i * 2, none⟩ = some (.string xn) ∧ wx.cell? ⟨ab, ao + i * 2 + 1, none⟩ = some (.string xv) from fun wx hb => by
                have hB := bb ST7.out.bel hb
                obtain ⟨ab2, ao2, ea2, _, x1, x2⟩ := at_cells XX.out.ats hB his
                cases ea2
                rw [hxn] at x1
                rw [hxv] at x2
                exact ⟨(XX.out.cells hB).2, x1, x2⟩)
              have hw5 : (w5.alloc (.cells #[] 62)).heap.size = w5.heap.size + 1 := by simp
              have hw6 : (w5.alloc (.cells #[.string xn, .string xv] 62)).heap.size = w5.heap.size + 1 := by simp
              have B0 := hid ((Below.refl w5.heap.size w5).drew)
              have B1 := hid (((Below.refl w5.heap.size w5).alloc (Nat.le_refl _) (.cells #[] 62)).drew)
              have B2 := hid ((((Below.refl w5.heap.size w5).alloc (Nat.le_refl _) (.cells #[] 62)).alloc (by simp) (.cells #[.string xn, .string xv] 62)).drew)
              have B3 := hid (((Below.refl w5.heap.size w5).alloc (Nat.le_refl _) (.cells #[.string xn, .string xv] 62)).drew)
              have B4 := hid ((((Below.refl w5.heap.size w5).alloc (Nat.le_refl _) (.cells #[.string xn, .string xv] 62)).alloc (by simp) (.cells #[] 62)).drew)
              have F1 := hid (show ((w5.alloc (.cells #[] 62)).drew).ownsRow w5.heap.size 62 2 (.slice (some ⟨w5.heap.size, 0, none⟩) 0 0) 0 [] from own_new w5 62 2)
              have F2 := hid (show (((w5.alloc (.cells #[] 62)).alloc (.cells #[.string xn, .string xv] 62)).drew).ownsRow w5.heap.size 62 2 (.slice (some ⟨w5.heap.size, 0, none⟩) 0 0) 0 [] from (own_new w5 62 2).alloc (.cells #[.string xn, .string xv] 62))
              have F3 := hid (show (((w5.alloc (.cells #[.string xn, .string xv] 62)).alloc (.cells #[] 62)).drew).ownsRow w5.heap.size 62 2 (.slice (some ⟨w5.heap.size + 1, 0, none⟩) 0 0) 0 [] from by have h := own_base (own_new (w5.alloc (.cells #[.string xn, .string xv] 62)) 62 2) (show w5.heap.size ≤ (w5.alloc (.cells #[.string xn, .string xv] 62)).heap.size by simp); rw [hw6] at h; exact h)
              have X2 := hid (show Rd (((w5.alloc (.cells #[] 62)).alloc (.cells #[.string xn, .string xv] 62)).drew) 2 (.slice (some ⟨w5.heap.size + 1, 0, none⟩) 1 1) 1 (atC [⟨xn, xv⟩]) from by have h := Rd.new (w5.alloc (.cells #[] 62)) 62 2 (atC [⟨xn, xv⟩]) 1 rfl; rw [hw5] at h; exact ⟨h.at_, h.len⟩)
              have X3 := hid (show Rd (((w5.alloc (.cells #[.string xn, .string xv] 62)).alloc (.cells #[] 62)).drew) 2 (.slice (some ⟨w5.heap.size, 0, none⟩) 1 1) 1 (atC [⟨xn, xv⟩]) from by have h := (Rd.new w5 62 2 (atC [⟨xn, xv⟩]) 1 rfl).below ((Below.refl _ _).alloc (Nat.le_refl _) (.cells #[] 62)); exact ⟨h.at_, h.len⟩)
              have K0 := hid (KP.out _ B0.out)
              have K1 := hid (KP.out _ B1.out)
              have K2 := hid (KP.out _ B2.out)
              have K3 := hid (KP.out _ B3.out)
              have K4 := hid (KP.out _ B4.out)
              have HBc := B0
              clear hxn hxv hw5 hw6
              go_wp2_with fail
              go_region_held3 (fun w' => w'.cell? ⟨w.heap.size, 2, none⟩ = some (.slice (some ⟨ab, ao, none⟩) nA ca) ∧ w'.cell? ⟨ab, ao + i * 2, none⟩ = some (.string xn) ∧ w'.cell? ⟨ab, ao + i * 2 + 1, none⟩ = some (.string xv)) (first | with_reducible exact K0.out | with_reducible exact K1.out | with_reducible exact K2.out | with_reducible exact K3.out | with_reducible exact K4.out | with_reducible exact KP.out _ HBc.out | with_reducible exact KP.out _ (HBc.out.alloc HBc.out.size _))
                (first
                  | (refine step_own rfl (.tmp 111) (.tmp 114) 42 rfl 62 i0 _ 2 32 Tryz.underlying42 iI hz0 hz1 hz2 rfl (by decide) w5.heap.size w5.heap.size 0 0 J [] (atC (L.take J)) _ (by simp [Act.eval, Act.put]) (by simp [Act.eval, Act.put]) F1.out (HU7.out.below B1.out) (atC_cell _) (by omega) (by omega) B1.out.size J (by omega) (atC (L.take J)) rfl ?_; intro g6 c6 w6 ho6 hb6 hg6; have HO6 := hid ho6; replace HBc := hid (B1.out.trans hb6); clear ho6 hb6 hg6)
                  | (refine step_own rfl (.tmp 111) (.tmp 114) 42 rfl 62 i0 _ 2 32 Tryz.underlying42 iI hz0 hz1 hz2 rfl (by decide) w5.heap.size w5.heap.size 0 0 J [] (atC (L.take J)) _ (by simp [Act.eval, Act.put]) (by simp [Act.eval, Act.put]) F2.out (HU7.out.below B2.out) (atC_cell _) (by omega) (by omega) B2.out.size J (by omega) (atC (L.take J)) rfl ?_; intro g6 c6 w6 ho6 hb6 hg6; have HO6 := hid ho6; have HX6 := hid (X2.out.grown hg6 (by omega)); replace HBc := hid (B2.out.trans hb6); clear ho6 hb6 hg6)
                  | (refine step_own rfl (.tmp 111) (.tmp 114) 42 rfl 62 i0 _ 2 32 Tryz.underlying42 iI hz0 hz1 hz2 rfl (by decide) w5.heap.size (w5.heap.size + 1) 0 0 J [] (atC (L.take J)) _ (by simp [Act.eval, Act.put]) (by simp [Act.eval, Act.put]) F3.out (HU7.out.below B4.out) (atC_cell _) (by omega) (by omega) B4.out.size J (by omega) (atC (L.take J)) rfl ?_; intro g6 c6 w6 ho6 hb6 hg6; have HO6 := hid ho6; have HX6 := hid (X3.out.grown hg6 (by omega)); replace HBc := hid (B4.out.trans hb6); clear ho6 hb6 hg6)
                  | (refine step_own rfl (.tmp 115) (.tmp 121) 42 rfl 62 i0 _ 2 32 Tryz.underlying42 iI hz0 hz1 hz2 rfl (by decide) w5.heap.size g6 c6 J 1 (atC (L.take J)) (atC [⟨xn, xv⟩]) _ (by simp [Act.eval, Act.put]) (by simp [Act.eval, Act.put]) HO6.out HX6.out (atC_cell _) (by omega) (by omega) HBc.out.size (J + 1) (by omega) (atC (L.take J ++ [⟨xn, xv⟩])) (by rw [atC_app]) ?_; intro g8 c8 w8 ho8 hb8 hg8; have HO8 := hid ho8; replace HBc := hid (HBc.out.trans hb8); clear ho8 hb8 hg8)
                  | (refine step_own rfl (.tmp 115) (.tmp 121) 42 rfl 62 i0 _ 2 32 Tryz.underlying42 iI hz0 hz1 hz2 rfl (by decide) w5.heap.size g6 c6 J 1 (atC (L.take J)) (atC [⟨xn, xv⟩]) _ (by simp [Act.eval, Act.put]) (by simp [Act.eval, Act.put]) (HO6.out.alloc _) (Rd.new w6 62 2 (atC [⟨xn, xv⟩]) 1 rfl) (atC_cell _) (by omega) (by omega) (HBc.out.alloc HBc.out.size _).size (J + 1) (by omega) (atC (L.take J ++ [⟨xn, xv⟩])) (by rw [atC_app]) ?_; intro g8 c8 w8 ho8 hb8 hg8; have HO8 := hid ho8; replace HBc := hid ((HBc.out.alloc HBc.out.size (.cells #[.string xn, .string xv] 62)).trans hb8); clear ho8 hb8 hg8)
                  | (refine step_own rfl (.tmp 122) (.tmp 123) 42 rfl 62 i0 _ 2 32 Tryz.underlying42 iI hz0 hz1 hz2 rfl (by decide) w5.heap.size g8 c8 (J + 1) (m - J) (atC (L.take J ++ [⟨xn, xv⟩])) (atC (L.drop J)) _ (by simp [Act.eval, Act.put]) (by simp [Act.eval, Act.put]) HO8.out (HRS.out.below HBc.out) (atC_cell _) (by omega) (by omega) HBc.out.size (m + 1) (by omega) (atC (L.take J ++ ⟨xn, xv⟩ :: L.drop J)) (by rw [← atC_app, List.append_assoc]; rfl) ?_; intro g9 c9 w9 ho9 hb9 hg9; have HO9 := hid ho9; replace HBc := hid (HBc.out.trans hb9); clear ho9 hb9 hg9))
              all_goals (
                rename_i hHeld
                clear hHeld
                have HXE := hid (show l[i] = ⟨xn, xv⟩ by rw [← HXN.out.1, ← HXN.out.2])
                have STN := hid (ST7.out.next his HDC.out (bb ST7.out.bel HBc.out) HPP.out (HP7.out.below HBc.out) (show insN ts k (othL ts k (l.take i)) l[i] = J from HJ.out) (show Rd w9 2 (.slice (some ⟨g9, 0, none⟩) (m + 1) c9) (m + 1) (atC ((othL ts k (l.take i)).take J ++ l[i] :: (othL ts k (l.take i)).drop J)) by rw [HL.out, HXE.out]; exact Rd.own HO9.out))
                clear HO9 HO8 HO6 HXE HBc B0 B1 B2 B3 B4 F1 F2 F3 X2 X3 K0 K1 K2 K3 K4 KP ST7 HP7 HRS HU7
                go_wp2_with fail
                go_roundw
                case rel => exact ⟨i + 1, P'.length, m + 1, pb', po', pc', g9, 0, c9, by go_num, rfl, rfl, STN.out⟩
                case measure => (simp [intOf]; omega))

set_option maxRecDepth 8000 in
set_option maxHeartbeats 16000000 in
theorem c_spec_l11Canon (a : Option Addr) (cap : Nat) (ts : List Tk) (but : Int) (hT : TreeP ts) (hz : TksSz 1048576 ts) : ∀ (f k : Nat) (sd : List At) (sa : Option Addr) (sc : Nat) (w : World), TkRow w a ts → k < ts.length → ts.length - k ≤ f → AtRow w sa sd → sd.length ≤ 10 * k →
    Calls Tryz.prog 19 #[.slice a ts.length cap, .int .i64 (k : Int), .int .i64 but, .slice sa sd.length sc] w fun e w' => e = .returned (.string (canonN ts but f k sd)) ∧ Below w.heap.size w w'
  | 0, k, _, _, _, _, _, hk, hf, _, _ => by omega
  | f + 1, k, sd, sa, sc, w, hR, hk, hf, hS, hsd => by
    obtain ⟨b, o, aa, ca, rfl, hbl, q0, q1, q2, q3, hA⟩ := hR k hk
    obtain ⟨t, ht⟩ : ∃ t, ts[k] = t := ⟨_, rfl⟩
    have htn : nodeAt ts k = t := by rw [nodeAt_at hk, ht]
    have hts := nodeAt_sz hz k
    rw [htn] at hts
    rw [ht] at q0 q1 q2 q3 hA
    obtain ⟨K, nm, l, tx⟩ := t
    simp only at q0 q1 q2 q3 hA
    have hLA := (Below.refl w.heap.size w).alloc (Nat.le_refl _) (.cells #[.int .i64 K, .string nm, .slice aa l.length ca, .string tx] 44)
    have hM0 := heap_alloc_new w (.cells #[.int .i64 K, .string nm, .slice aa l.length ca, .string tx] 44)
    obtain ⟨W0, hW0⟩ : ∃ W0, w.alloc (.cells #[.int .i64 K, .string nm, .slice aa l.length ca, .string tx] 44) = W0 := ⟨_, rfl⟩
    rw [hW0] at hLA hM0
    have hkn : (k : Int) < (ts.length : Int) := by omega
    by_cases hbut : (k : Int) = but
    · rw [canonN_but hbut]
      subst hbut
      have hbb : ((k : Int) == (k : Int)) = true := by simp
      have HLA := hid hLA
      clear hR hS hA hts htn ht hT hz hf hsd hLA hM0
      generalize ts.length = n at *
      generalize sd.length = ns at *
      generalize l.length = nA at *
      go_enter Tryz.func19, Tryz.ntmps19
      go_wp2_with fail
      go_ret
      exact ⟨rfl, HLA.out⟩
    have hbb : ((k : Int) == but) = false := by simpa using hbut
    by_cases hnm : nm.size = 0
    · rw [canonN_text htn hbut hnm]
      have E1 := empty_is nm
      rw [decide_eq_true hnm] at E1
      obtain ⟨⟨c0, c1, c2, c3⟩, _⟩ := box4 hM0
      have CX := hid (show Calls Tryz.prog 40 #[.string tx, .bool false] W0 fun e w' => e = .returned (.string (escS false tx)) ∧ Below W0.heap.size W0 w' from c_spec_Escaped tx false W0 hts.2.2.2)
      have HLA := hid hLA
      clear hR hS hA hts htn ht hT hz hf hsd hLA hM0 hbut hnm
      generalize escS false tx = ES at *
      generalize ts.length = n at *
      generalize sd.length = ns at *
      generalize l.length = nA at *
      go_enter Tryz.func19, Tryz.ntmps19
      go_wp2_with fail
      refine CX.out.mono ?_
      rintro e w1 ⟨rfl, hb1⟩
      have HB1 := hid (bb HLA.out hb1)
      clear hb1 CX
      go_wp2_with fail
      go_ret
      exact ⟨rfl, HB1.out⟩
    · have h6 : l.length ≤ 6 := by
        have h := six_at hT k (by rw [htn]; exact hnm)
        rw [htn] at h
        exact h
      exact canon_el ⟨hT, hz, rfl, hk, rfl, hsd, rfl, h6, hts, htn, hLA, hM0, hR.below hLA, hA.below hLA, hS.below hLA, fun j sd' sa' sc' wx h1 h2 h3 h4 h5 => c_spec_l11Canon (some ⟨b, o, none⟩) cap ts but hT hz f j sd' sa' sc' wx h1 h2 (by omega) h4 h5⟩ hW0 q0 q1 q2 q3 hbb (by rw [empty_is, decide_eq_false hnm]) _ (canonN_el htn hbut hnm)

end Go.Proofs.YtkejmifkjgpdjaaGreat
