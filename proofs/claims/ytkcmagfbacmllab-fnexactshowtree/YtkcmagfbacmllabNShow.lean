/- Contracts of what a token is shown as, of the specification. -/
import Derived.Test.YtkcmagfbacmllabNOkT
import Derived.Test.YtkcmagfbacmllabSEEscaped
namespace Go.Proofs.Ytkcmagfbacmllab
open Go.RowKit
set_option linter.unusedVariables false
set_option linter.unusedSimpArgs false

/-- A text as it is escaped. -/
def escS (q : Bool) (s : ByteArray) : ByteArray := ⟨(escapedL q s.data.toList).toArray⟩

/-- An attr as it is shown. -/
def atS (x : At) : ByteArray := (((((⟨#[32]⟩ : ByteArray) ++ x.name) ++ ⟨#[61, 34]⟩) ++ escS true x.value) ++ ⟨#[34]⟩)

/-- Attrs as they are shown, behind what stands ahead. -/
def atsS : List At → ByteArray → ByteArray
  | [], s => s
  | x :: l, s => atsS l (s ++ atS x)

theorem atsS_snoc (l : List At) (x : At) (s : ByteArray) : atsS (l ++ [x]) s = atsS l s ++ atS x := by
  induction l generalizing s with
  | nil => rfl
  | cons y l ih => exact ih _

theorem escS_size (q : Bool) (s : ByteArray) : (escS q s).size ≤ 6 * s.size := by
  have e : (escS q s).size = (escapedL q s.data.toList).length := by unfold escS; simp [ByteArray.size]
  have e2 : s.size = s.data.toList.length := rfl
  rw [e, e2]
  unfold escapedL
  split
  · exact escL_le q _
  · simp

theorem atS_size (x : At) : (atS x).size ≤ 4 + x.name.size + 6 * x.value.size := by
  have h := escS_size true x.value
  have e1 : (⟨#[32]⟩ : ByteArray).size = 1 := rfl
  have e2 : (⟨#[61, 34]⟩ : ByteArray).size = 2 := rfl
  have e3 : (⟨#[34]⟩ : ByteArray).size = 1 := rfl
  unfold atS
  simp only [ByteArray.size_append, e1, e2, e3]
  omega

set_option maxHeartbeats 1000000 in
theorem cL7Attr (x : At) (w : World) (h1 : x.name.size ≤ 1048576) (h2 : x.value.size ≤ 1048576) :
    Calls Try.prog 67 #[.agg #[.string x.name, .string x.value]] w fun e w' => e = .returned (.string (atS x)) ∧ Below w.heap.size w w' := by
  have C := fun w => c_spec_Escaped x.value true w h2
  have hz := escS_size true x.value
  have e0 : atS x = (((((⟨#[32]⟩ : ByteArray) ++ x.name) ++ ⟨#[61, 34]⟩) ++ escS true x.value) ++ ⟨#[34]⟩) := rfl
  rw [e0]
  have e1 : (⟨(escapedL true x.value.data.toList).toArray⟩ : ByteArray) = escS true x.value := rfl
  rw [e1] at C
  obtain ⟨E, hE⟩ : ∃ E, escS true x.value = E := ⟨_, rfl⟩
  rw [hE] at C hz ⊢
  clear e0 e1 hE
  generalize x.name = n at *
  generalize x.value = v at *
  have HB0 := hid ((Below.refl w.heap.size w).alloc (Nat.le_refl _) (.cells #[.string n, .string v] 88))
  have M := hid (heap_alloc_new w (.cells #[.string n, .string v] 88))
  obtain ⟨W, hW⟩ : ∃ W, w.alloc (.cells #[.string n, .string v] 88) = W := ⟨_, rfl⟩
  rw [hW] at HB0 M
  have k1 : W.cell? ⟨w.heap.size, 0, none⟩ = some (.string n) := by rw [Lib.cell_of_heap M.out]; rfl
  have k2 : W.cell? ⟨w.heap.size, 0 + 1, none⟩ = some (.string v) := by rw [Lib.cell_of_heap M.out]; rfl
  obtain ⟨d1, d2⟩ := pair_bw (lt_of_heap M.out) k1 k2
  simp only [Nat.zero_add] at d2
  clear k1 k2
  have HNB := hid (bw_any W)
  go_enter Try.func67, Try.ntmps67
  go_wp2_with fail
  haveI := HNB.out
  refine wp_region_below (by kernel_rfl) (by kernel_rfl) (Below.refl W.heap.size W) ?_
  repeat (go_big_quiet_step ((go_at_call 66; exact calls_bw _ (C _))))
  refine wpQuiet_nil ?_
  intro _ hw'
  obtain ⟨⟨wq, hwq⟩, hw''⟩ := hw'
  subst hw''
  have HB2 := hid (bb HB0.out hwq)
  go_wp2_with fail
  go_ret
  exact ⟨rfl, HB2.out⟩

/-- A token as it is shown. -/
def showS (t : Tk) : ByteArray :=
  if t.kind = 2 then ((⟨#[60, 47]⟩ : ByteArray) ++ t.name) ++ ⟨#[62]⟩
  else if t.kind = 3 then escS false t.text
  else atsS t.attrs ((⟨#[60]⟩ : ByteArray) ++ t.name) ++ ⟨#[62]⟩

theorem atsS_size (l : List At) (s : ByteArray) (hz : AtSz 1048576 l) : (atsS l s).size ≤ s.size + l.length * 7340036 := by
  induction l generalizing s with
  | nil => simp [atsS]
  | cons x l ih =>
    have h1 := ih (s ++ atS x) (fun y hy => hz y (List.mem_cons_of_mem _ hy))
    have h2 := atS_size x
    have h3 := hz x List.mem_cons_self
    rw [ByteArray.size_append] at h1
    rw [List.length_cons]
    show (atsS l (s ++ atS x)).size ≤ _
    omega

set_option maxRecDepth 8000 in
set_option maxHeartbeats 2000000 in
theorem cL7Show (t : Tk) (a : Option Addr) (cap : Nat) (w : World) (hR : AtRow w a t.attrs) (hz : TkSz 1048576 t) (h6 : t.attrs.length ≤ 6) :
    Calls Try.prog 45 #[tkV t a cap] w fun e w' => e = .returned (.string (showS t)) ∧ Below w.heap.size w w' := by
  obtain ⟨k, name, l, text⟩ := t
  obtain ⟨h1, _, h3, h4⟩ := hz
  simp only at hR h1 h3 h4 h6
  have HB0 := hid ((Below.refl w.heap.size w).alloc (Nat.le_refl _) (.cells #[.int .i64 k, .string name, .slice a l.length cap, .string text] 53))
  have HR := hid (hR.below HB0.out)
  have M0 := hid (heap_alloc_new w (.cells #[.int .i64 k, .string name, .slice a l.length cap, .string text] 53))
  clear hR
  simp only [tkV]
  by_cases k2 : k = 2
  · subst k2
    rw [show showS ⟨2, name, l, text⟩ = ((⟨#[60, 47]⟩ : ByteArray) ++ name) ++ ⟨#[62]⟩ from rfl]
    clear h3
    generalize l.length = n at *
    go_enter Try.func45, Try.ntmps45
    go_wp2_with fail
    go_ret
    exact ⟨rfl, HB0.out⟩
  · have d2 : (k == 2) = false := by simpa using k2
    by_cases k3 : k = 3
    · subst k3
      rw [show showS ⟨3, name, l, text⟩ = escS false text from rfl]
      have C := fun w => c_spec_Escaped text false w h4
      have e1 : (⟨(escapedL false text.data.toList).toArray⟩ : ByteArray) = escS false text := rfl
      rw [e1] at C
      generalize escS false text = E at *
      clear h3 e1
      generalize l.length = n at *
      go_enter Try.func45, Try.ntmps45
      go_wp2_with fail
      refine (C _).mono ?_
      rintro e w1 ⟨rfl, hb1⟩
      have HB1 := hid (bb HB0.out hb1)
      go_wp2_with fail
      go_ret
      exact ⟨rfl, HB1.out⟩
    · have d3 : (k == 3) = false := by simpa using k3
      have e0 : showS ⟨k, name, l, text⟩ = atsS l ((⟨#[60]⟩ : ByteArray) ++ name) ++ ⟨#[62]⟩ := by unfold showS; simp [k2, k3]
      rw [e0]
      obtain ⟨V, hV⟩ : ∃ V, atsS l ((⟨#[60]⟩ : ByteArray) ++ name) ++ ⟨#[62]⟩ = V := ⟨_, rfl⟩
      have HV := hid hV
      rw [hV]
      have H3 := hid h3
      clear e0 hV h3 k2 k3
      obtain ⟨n, hn⟩ : ∃ n, l.length = n := ⟨_, rfl⟩
      have HN := hid hn
      rw [hn] at h6 HB0 HR M0 ⊢
      clear hn
      go_enter Try.func45, Try.ntmps45
      go_wp2_with fail
      go_loopw [3, 4] (fun v j wr => ∃ i : Nat, j = .int .i64 (i : Int) ∧ i ≤ n ∧ v = .string (atsS (l.take i) ((⟨#[60]⟩ : ByteArray) ++ name)) ∧ Hid (Below (w.heap.size + 1) (w.alloc (.cells #[.int .i64 k, .string name, .slice a n cap, .string text] 53)) wr)) (fun _ j _ => n - (intOf j).toNat)
      case atStart => exact ⟨0, rfl, Nat.zero_le _, rfl, Below.refl _ _⟩
      case round =>
        obtain ⟨i, rfl, hi, rfl, HB⟩ := hrel
        have HBx := hid (show Below (w.alloc (.cells #[.int .i64 k, .string name, .slice a n cap, .string text] 53)).heap.size (w.alloc (.cells #[.int .i64 k, .string name, .slice a n cap, .string text] 53)) wr by simpa using HB.out)
        obtain ⟨⟨x0, x1, x2, x3⟩, _⟩ := box4 (blk_below M0.out HBx.out)
        have HBw := hid (bb HB0.out HBx.out)
        have HZ := hid (atsS_size (l.take i) ((⟨#[60]⟩ : ByteArray) ++ name) (fun x hx => H3.out x (List.mem_of_mem_take hx)))
        have hz1 := HZ.out
        rw [ByteArray.size_append, show (⟨#[60]⟩ : ByteArray).size = 1 from rfl, List.length_take] at hz1
        have hz2 : (atsS (l.take i) ((⟨#[60]⟩ : ByteArray) ++ name)).size ≤ 60000000 := by omega
        clear hz1 HZ
        by_cases hlt : i < n
        · have his : i < l.length := by rw [HN.out]; exact hlt
          have hin : (i : Int) < (n : Int) := by omega
          obtain ⟨b, o, rfl, hb, c1, c2⟩ := (HR.out.below HBx.out) i his
          obtain ⟨z1, z2⟩ := H3.out _ (List.getElem_mem his)
          have C := fun w => cL7Attr l[i] w z1 z2
          have HS := hid (show atsS (l.take (i + 1)) ((⟨#[60]⟩ : ByteArray) ++ name) = atsS (l.take i) ((⟨#[60]⟩ : ByteArray) ++ name) ++ atS l[i] by rw [take_snocN his, atsS_snoc])
          have z3 := atS_size l[i]
          generalize atS l[i] = X at *
          generalize l[i].name = x at *
          generalize l[i].value = y at *
          generalize atsS (l.take i) ((⟨#[60]⟩ : ByteArray) ++ name) = cur at *
          go_wp2_with fail
          refine (C _).mono ?_
          rintro e w2 ⟨rfl, hb2⟩
          have HB2 := hid (HB.out.trans (hb2.mono (by have := HBx.out.size; simpa using this)))
          clear hb2 C c1 c2 x0 x1 x2 x3
          go_wp2_with fail
          go_roundw
          case rel => exact ⟨i + 1, by go_num, by omega, by rw [HS.out], HB2.out⟩
          case measure => simp [intOf]; omega
        · have hie : i = n := by omega
          subst hie
          have HW := hid (show atsS (l.take i) ((⟨#[60]⟩ : ByteArray) ++ name) ++ ⟨#[62]⟩ = V by rw [List.take_of_length_le (by rw [HN.out]; exact Nat.le_refl _)]; exact HV.out)
          generalize atsS (l.take i) ((⟨#[60]⟩ : ByteArray) ++ name) = cur at *
          go_wp2_with fail
          go_ret
          exact ⟨by rw [← HW.out]; rfl, HBw.out⟩

theorem tokB_len {t : Tk} (h : tokB t = true) : t.attrs.length ≤ 6 := by
  unfold tokB at h
  split at h
  · simp only [Bool.and_eq_true] at h
    have h2 := h.2.1
    by_cases k : AttrsOk t.attrs
    · exact k.1
    · rw [attrsB_f k] at h2
      cases h2
  · split at h
    · simp only [Bool.and_eq_true, decide_eq_true_eq] at h
      omega
    · split at h
      · simp only [Bool.and_eq_true, decide_eq_true_eq] at h
        omega
      · cases h

/-- What ShowToken answers. -/
noncomputable def shownT (t : Tk) : ByteArray := if tokB t = true then showS t else ⟨#[]⟩

end Go.Proofs.Ytkcmagfbacmllab
