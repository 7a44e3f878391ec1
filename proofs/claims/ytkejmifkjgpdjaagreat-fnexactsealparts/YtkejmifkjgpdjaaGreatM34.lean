/- Contracts of shownAttrs and ShowToken of the program. Attrs shown, up to seven of them: contract of shownAttrs. What Canon writes, as it lies in memory, and its text: contracts of written and writtenAll. -/
import Derived.Test.YtkejmifkjgpdjaaGreatM22
import Derived.Test.YtkejmifkjgpdjaaGreatM25
import Derived.Test.YtkejmifkjgpdjaaGreatM21
import Derived.Test.YtkejmifkjgpdjaaGreatM15
import Derived.Test.YtkejmifkjgpdjaaGreatM1
import Derived.Test.YtkejmifkjgpdjaaGreatM32
import Derived.Deep.RegionHeld3
namespace Go.Proofs.YtkejmifkjgpdjaaGreat
open Go.RowKit
set_option linter.unusedVariables false
set_option linter.unusedSimpArgs false

theorem strCells_app (a b : ByteArray) : Lib.strCells a ++ Lib.strCells b = Lib.strCells (a ++ b) := by
  simp [Lib.strCells]

theorem of_size {a b c : ByteArray} (h : a ++ b = c) : c.size = a.size + b.size := by rw [← h, ByteArray.size_append]

theorem str_eta (s : ByteArray) : (⟨s.data.toList.toArray⟩ : ByteArray) = s := by
  apply ByteArray.ext
  simp

theorem atS_assoc (x y : ByteArray) : ((((((⟨#[32]⟩ : ByteArray) ++ x) ++ ⟨#[61]⟩) ++ ⟨#[34]⟩) ++ y) ++ ⟨#[34]⟩) = (((((⟨#[32]⟩ : ByteArray) ++ x) ++ ⟨#[61, 34]⟩) ++ y) ++ ⟨#[34]⟩) := by
  have e : (⟨#[61, 34]⟩ : ByteArray) = ⟨#[61]⟩ ++ ⟨#[34]⟩ := rfl
  rw [e]
  simp only [ByteArray.append_assoc]

theorem pair_kept {w0 w w2 : World} {g b : Nat} {x y : Value} {T e : TypeId} (M : w0.heap[g]? = some (.cells #[x, y] T (0, 0))) (hb : Below w0.heap.size w0 w) (hk : Lib.OthersKept e (some b) w w2) (hg : ¬ g = b) (hT : ¬ T = e) :
    w2.cell? ⟨g, 0, none⟩ = some x ∧ w2.cell? ⟨g, 1, none⟩ = some y :=
  box2c (hk g _ ((hb.block g (lt_of_heap M)).trans M) (by simpa using hg) (fun c fz h => by injection h with _ h2 _; exact hT h2))

theorem c_itself_32 (w : World) : Calls Tryz.prog 101 #[.int .u8 32] w fun e w' => e = .returned (.string ⟨#[32]⟩) ∧ Below w.heap.size w w' := c__impl_sign__itself 32 w
theorem c_itself_61 (w : World) : Calls Tryz.prog 101 #[.int .u8 61] w fun e w' => e = .returned (.string ⟨#[61]⟩) ∧ Below w.heap.size w w' := c__impl_sign__itself 61 w
theorem c_itself_34 (w : World) : Calls Tryz.prog 101 #[.int .u8 34] w fun e w' => e = .returned (.string ⟨#[34]⟩) ∧ Below w.heap.size w w' := c__impl_sign__itself 34 w

set_option maxRecDepth 100000 in
set_option maxHeartbeats 4000000 in
theorem cShownAttrs (a : Option Addr) (cap : Nat) (l : List At) (w : World) (hR : AtRow w a l) (hz : AtSz 1048576 l) (h6 : l.length ≤ 6) :
    Calls Tryz.prog 94 #[.slice a l.length cap] w fun e w' => e = .returned (.string (atsS l ⟨#[]⟩)) ∧ Below w.heap.size w w' := by
  obtain ⟨V, hV⟩ : ∃ V, atsS l ⟨#[]⟩ = V := ⟨_, rfl⟩
  have HV := hid hV
  rw [hV]
  clear hV
  have HR := hid hR
  have HZ := hid hz
  clear hR hz
  obtain ⟨n, hn⟩ : ∃ n, l.length = n := ⟨_, rfl⟩
  have HN := hid hn
  rw [hn] at h6 ⊢
  clear hn
  go_enter Tryz.func94, Tryz.ntmps94
  go_wp2_with fail
  go_loopw [8] (fun k wr => ∃ i : Nat, k = .int .i64 (i : Int) ∧ i ≤ n ∧ Hid (Lib.IsBuilder 151 5 w.heap.size w.heap.size (Lib.strCells (atsS (l.take i) ⟨#[]⟩)) wr) ∧ Hid (Below w.heap.size w wr) ∧ w.heap.size < wr.heap.size) (fun k _ => n - (intOf k).toNat)
  case atStart => exact ⟨0, rfl, Nat.zero_le _, Lib.fresh_isBuilder 151 5 _, (Below.refl _ _).alloc (Nat.le_refl _) _, by simp⟩
  case round =>
    obtain ⟨i, rfl, hi, HI, HB, hsz⟩ := hrel
    have HS1 := atsS_size (l.take i) ⟨#[]⟩ (fun x hx => HZ.out x (List.mem_of_mem_take hx))
    rw [show (⟨#[]⟩ : ByteArray).size = 0 from rfl, List.length_take] at HS1
    have hz2 : (Lib.strCells (atsS (l.take i) ⟨#[]⟩)).length ≤ 60000000 := by rw [Lib.strCells_length]; omega
    clear HS1
    by_cases hlt : i < n
    · have his : i < l.length := by rw [HN.out]; exact hlt
      have hin : (i : Int) < (n : Int) := by omega
      obtain ⟨b, o, rfl, hb, c1, c2⟩ := (HR.out.below HB.out) i his
      obtain ⟨z1, z2⟩ := HZ.out _ (List.getElem_mem his)
      have HX := hid (show atsS (l.take (i + 1)) ⟨#[]⟩ = atsS (l.take i) ⟨#[]⟩ ++ atS l[i] by rw [take_snocN his, atsS_snoc])
      have e0 : atS l[i] = ((((((⟨#[32]⟩ : ByteArray) ++ l[i].name) ++ ⟨#[61]⟩) ++ ⟨#[34]⟩) ++ escS true l[i].value) ++ ⟨#[34]⟩) := (atS_assoc _ _).symm
      rw [e0] at HX
      have z3 := escS_size true l[i].value
      have C := hid (fun w => c_impl_Escaped l[i].value true w z2)
      have e1 : (⟨(escapedL true l[i].value.data.toList).toArray⟩ : ByteArray) = escS true l[i].value := rfl
      rw [e1] at C
      generalize escS true l[i].value = E at *
      generalize l[i].name = x at *
      generalize l[i].value = y at *
      generalize atsS (l.take i) ⟨#[]⟩ = cur at *
      clear e0 e1
      have C32 := hid c_itself_32
      have C61 := hid c_itself_61
      have C34 := hid c_itself_34
      obtain ⟨B32, q32⟩ : ∃ B : ByteArray, (⟨#[32]⟩ : ByteArray) = B := ⟨_, rfl⟩
      obtain ⟨B61, q61⟩ : ∃ B : ByteArray, (⟨#[61]⟩ : ByteArray) = B := ⟨_, rfl⟩
      obtain ⟨B34, q34⟩ : ∃ B : ByteArray, (⟨#[34]⟩ : ByteArray) = B := ⟨_, rfl⟩
      rw [q32] at C32 HX
      rw [q61] at C61 HX
      rw [q34] at C34 HX
      have v32 : B32.size = 1 := by rw [← q32]; rfl
      have v61 : B61.size = 1 := by rw [← q61]; rfl
      have v34 : B34.size = 1 := by rw [← q34]; rfl
      clear q32 q61 q34
      obtain ⟨S1, h1⟩ : ∃ S, B32 ++ x = S := ⟨_, rfl⟩
      obtain ⟨S2, h2⟩ : ∃ S, S1 ++ B61 = S := ⟨_, rfl⟩
      obtain ⟨S3, h3⟩ : ∃ S, S2 ++ B34 = S := ⟨_, rfl⟩
      obtain ⟨S4, h4⟩ : ∃ S, S3 ++ E = S := ⟨_, rfl⟩
      obtain ⟨S5, h5⟩ : ∃ S, S4 ++ B34 = S := ⟨_, rfl⟩
      rw [h1, h2, h3, h4, h5] at HX
      have g1 := of_size h1
      have g2 := of_size h2
      have g3 := of_size h3
      have g4 := of_size h4
      have g5 := of_size h5
      have f1 : ¬ 9223372036854775807 < B32.size + x.size := by omega
      have f2 : ¬ 9223372036854775807 < S1.size + B61.size := by omega
      have f3 : ¬ 9223372036854775807 < S2.size + B34.size := by omega
      have f4 : ¬ 9223372036854775807 < S3.size + E.size := by omega
      have f5 : ¬ 9223372036854775807 < S4.size + B34.size := by omega
      have hlen : (Lib.strCells cur).length + S5.size ≤ 140737488355328 := by omega
      clear g1 g2 g3 g4 g5 v32 v61 v34 z1 z2 z3 hz2
      have M := hid (heap_alloc_new wr (.cells #[.string x, .string y] 62))
      have HB0 := hid (HB.out.alloc HB.out.size (.cells #[.string x, .string y] 62))
      have HI0 := hid (isBuilder_below HI.out ((Below.refl wr.heap.size wr).alloc (Nat.le_refl _) (.cells #[.string x, .string y] 62)))
      obtain ⟨g, hg⟩ : ∃ g, wr.heap.size = g := ⟨_, rfl⟩
      have Hg := hid hg
      go_wp2_with fail
      obtain ⟨W0, hW0⟩ : ∃ W0, wr.alloc (.cells #[.string x, .string y] 62) = W0 := ⟨_, rfl⟩
      rw [hW0] at M HB0 HI0
      simp only [hW0, hg] at M ⊢
      have HBc := hid ((Below.refl W0.heap.size W0).drew)
      have hgl := hid (lt_of_heap M.out)
      have hk := hid (box2c M.out)
      have hgb : ¬ g = w.heap.size := by omega
      clear c1 c2 hW0
      go_region_held3 (fun w' => w'.cell? ⟨g, 0, none⟩ = some (.string x) ∧ w'.cell? ⟨g, 1, none⟩ = some (.string y)) (first | exact HK.out | exact ⟨(HBc.out.cell (p := ⟨g, 0, none⟩) hgl.out).trans hk.out.1, (HBc.out.cell (p := ⟨g, 1, none⟩) hgl.out).trans hk.out.2⟩)
        (first
          | (go_at_call 101; refine (C32.out _).mono ?_; rintro e w1 ⟨rfl, hb1⟩; replace HBc := hid (bb HBc.out hb1); clear hb1)
          | (go_at_call 101; refine (C61.out _).mono ?_; rintro e w1 ⟨rfl, hb1⟩; replace HBc := hid (bb HBc.out hb1); clear hb1)
          | (go_at_call 101; refine (C34.out _).mono ?_; rintro e w1 ⟨rfl, hb1⟩; replace HBc := hid (bb HBc.out hb1); clear hb1)
          | (go_at_call 96; refine (C.out _).mono ?_; rintro e w1 ⟨rfl, hb1⟩; replace HBc := hid (bb HBc.out hb1); clear hb1)
          | (go_at_call 122; refine (writeString w.heap.size w.heap.size (Lib.strCells cur) _ _ (isBuilder_below HI0.out HBc.out) hlen ?c2).mono ?_; (case c2 => (have := HBc.out.size; have := hgl.out; omega)); rintro e w2 ⟨rfl, hI2, hb2, hk2⟩; have HK := hid (pair_kept M.out HBc.out hk2 hgb (by decide)); have HI2 := hid hI2; have HB2 := hid ((bb HB0.out HBc.out).trans hb2); have HZ2 := hid (show w.heap.size < w2.heap.size by have := hb2.size; have := HBc.out.size; have := hgl.out; omega); clear hI2 hb2 hk2))
      go_wp2_with fail
      go_roundw
      case rel => exact ⟨i + 1, by go_num, by omega, by rw [HX.out, ← strCells_app]; exact HI2.out, HB2.out, HZ2.out⟩
      case measure => simp [intOf]; omega
    · have hie : i = n := by omega
      subst hie
      have e1 : atsS (l.take i) ⟨#[]⟩ = V := by rw [List.take_of_length_le (by rw [HN.out]; exact Nat.le_refl _)]; exact HV.out
      rw [e1] at HI hz2
      have e2 := str_eta V
      have hI2 := HI.out
      rw [Lib.strCells_eq] at hI2
      have C := hid (fun h => Tryz.Builder_String_any _ _ _ wr hI2 h)
      rw [e2] at C
      clear hI2 e1 e2
      go_wp2_with fail
      refine (C.out (Nat.le_of_lt hsz)).mono ?_
      rintro e w2 ⟨rfl, hb2⟩
      have HB2 := hid (HB.out.trans hb2)
      go_wp2_with fail
      go_ret
      exact ⟨rfl, HB2.out⟩

theorem atsS_app (l : List At) (s : ByteArray) : atsS l s = s ++ atsS l ⟨#[]⟩ := by
  have H : ∀ (l : List At) (s t : ByteArray), atsS l (s ++ t) = s ++ atsS l t := by
    intro l
    induction l with
    | nil => intro s t; rfl
    | cons x l ih => intro s t; show atsS l ((s ++ t) ++ atS x) = s ++ atsS l (t ++ atS x); rw [ByteArray.append_assoc, ih]
  have e := H l s ⟨#[]⟩
  rwa [show s ++ (⟨#[]⟩ : ByteArray) = s from by apply ByteArray.ext; simp] at e

theorem tokB_kind {t : Tk} (h : tokB t = true) : t.kind = 1 ∨ t.kind = 2 ∨ t.kind = 3 := by
  unfold tokB at h
  split at h
  · exact .inl (by assumption)
  · split at h
    · exact .inr (.inl (by assumption))
    · split at h
      · exact .inr (.inr (by assumption))
      · cases h

end Go.Proofs.YtkejmifkjgpdjaaGreat

namespace Go.Proofs.YtkejmifkjgpdjaaGreat
open Go.RowKit
set_option linter.unusedVariables false
set_option linter.unusedSimpArgs false

set_option maxRecDepth 100000 in
set_option maxHeartbeats 4000000 in
theorem cShownAttrs7 (a : Option Addr) (cap : Nat) (l : List At) (w : World) (hR : AtRow w a l) (hz : AtSz 1048576 l) (h6 : l.length ≤ 7) :
    Calls Tryz.prog 94 #[.slice a l.length cap] w fun e w' => e = .returned (.string (atsS l ⟨#[]⟩)) ∧ Below w.heap.size w w' := by
  obtain ⟨V, hV⟩ : ∃ V, atsS l ⟨#[]⟩ = V := ⟨_, rfl⟩
  have HV := hid hV
  rw [hV]
  clear hV
  have HR := hid hR
  have HZ := hid hz
  clear hR hz
  obtain ⟨n, hn⟩ : ∃ n, l.length = n := ⟨_, rfl⟩
  have HN := hid hn
  rw [hn] at h6 ⊢
  clear hn
  go_enter Tryz.func94, Tryz.ntmps94
  go_wp2_with fail
  go_loopw [8] (fun k wr => ∃ i : Nat, k = .int .i64 (i : Int) ∧ i ≤ n ∧ Hid (Lib.IsBuilder 151 5 w.heap.size w.heap.size (Lib.strCells (atsS (l.take i) ⟨#[]⟩)) wr) ∧ Hid (Below w.heap.size w wr) ∧ w.heap.size < wr.heap.size) (fun k _ => n - (intOf k).toNat)
  case atStart => exact ⟨0, rfl, Nat.zero_le _, Lib.fresh_isBuilder 151 5 _, (Below.refl _ _).alloc (Nat.le_refl _) _, by simp⟩
  case round =>
    obtain ⟨i, rfl, hi, HI, HB, hsz⟩ := hrel
    have HS1 := atsS_size (l.take i) ⟨#[]⟩ (fun x hx => HZ.out x (List.mem_of_mem_take hx))
    rw [show (⟨#[]⟩ : ByteArray).size = 0 from rfl, List.length_take] at HS1
    have hz2 : (Lib.strCells (atsS (l.take i) ⟨#[]⟩)).length ≤ 60000000 := by rw [Lib.strCells_length]; omega
    clear HS1
    by_cases hlt : i < n
    · have his : i < l.length := by rw [HN.out]; exact hlt
      have hin : (i : Int) < (n : Int) := by omega
      obtain ⟨b, o, rfl, hb, c1, c2⟩ := (HR.out.below HB.out) i his
      obtain ⟨z1, z2⟩ := HZ.out _ (List.getElem_mem his)
      have HX := hid (show atsS (l.take (i + 1)) ⟨#[]⟩ = atsS (l.take i) ⟨#[]⟩ ++ atS l[i] by rw [take_snocN his, atsS_snoc])
      have e0 : atS l[i] = ((((((⟨#[32]⟩ : ByteArray) ++ l[i].name) ++ ⟨#[61]⟩) ++ ⟨#[34]⟩) ++ escS true l[i].value) ++ ⟨#[34]⟩) := (atS_assoc _ _).symm
      rw [e0] at HX
      have z3 := escS_size true l[i].value
      have C := hid (fun w => c_impl_Escaped l[i].value true w z2)
      have e1 : (⟨(escapedL true l[i].value.data.toList).toArray⟩ : ByteArray) = escS true l[i].value := rfl
      rw [e1] at C
      generalize escS true l[i].value = E at *
      generalize l[i].name = x at *
      generalize l[i].value = y at *
      generalize atsS (l.take i) ⟨#[]⟩ = cur at *
      clear e0 e1
      have C32 := hid c_itself_32
      have C61 := hid c_itself_61
      have C34 := hid c_itself_34
      obtain ⟨B32, q32⟩ : ∃ B : ByteArray, (⟨#[32]⟩ : ByteArray) = B := ⟨_, rfl⟩
      obtain ⟨B61, q61⟩ : ∃ B : ByteArray, (⟨#[61]⟩ : ByteArray) = B := ⟨_, rfl⟩
      obtain ⟨B34, q34⟩ : ∃ B : ByteArray, (⟨#[34]⟩ : ByteArray) = B := ⟨_, rfl⟩
      rw [q32] at C32 HX
      rw [q61] at C61 HX
      rw [q34] at C34 HX
      have v32 : B32.size = 1 := by rw [← q32]; rfl
      have v61 : B61.size = 1 := by rw [← q61]; rfl
      have v34 : B34.size = 1 := by rw [← q34]; rfl
      clear q32 q61 q34
      obtain ⟨S1, h1⟩ : ∃ S, B32 ++ x = S := ⟨_, rfl⟩
      obtain ⟨S2, h2⟩ : ∃ S, S1 ++ B61 = S := ⟨_, rfl⟩
      obtain ⟨S3, h3⟩ : ∃ S, S2 ++ B34 = S := ⟨_, rfl⟩
      obtain ⟨S4, h4⟩ : ∃ S, S3 ++ E = S := ⟨_, rfl⟩
      obtain ⟨S5, h5⟩ : ∃ S, S4 ++ B34 = S := ⟨_, rfl⟩
      rw [h1, h2, h3, h4, h5] at HX
      have g1 := of_size h1
      have g2 := of_size h2
      have g3 := of_size h3
      have g4 := of_size h4
      have g5 := of_size h5
      have f1 : ¬ 9223372036854775807 < B32.size + x.size := by omega
      have f2 : ¬ 9223372036854775807 < S1.size + B61.size := by omega
      have f3 : ¬ 9223372036854775807 < S2.size + B34.size := by omega
      have f4 : ¬ 9223372036854775807 < S3.size + E.size := by omega
      have f5 : ¬ 9223372036854775807 < S4.size + B34.size := by omega
      have hlen : (Lib.strCells cur).length + S5.size ≤ 140737488355328 := by omega
      clear g1 g2 g3 g4 g5 v32 v61 v34 z1 z2 z3 hz2
      have M := hid (heap_alloc_new wr (.cells #[.string x, .string y] 62))
      have HB0 := hid (HB.out.alloc HB.out.size (.cells #[.string x, .string y] 62))
      have HI0 := hid (isBuilder_below HI.out ((Below.refl wr.heap.size wr).alloc (Nat.le_refl _) (.cells #[.string x, .string y] 62)))
      obtain ⟨g, hg⟩ : ∃ g, wr.heap.size = g := ⟨_, rfl⟩
      have Hg := hid hg
      go_wp2_with fail
      obtain ⟨W0, hW0⟩ : ∃ W0, wr.alloc (.cells #[.string x, .string y] 62) = W0 := ⟨_, rfl⟩
      rw [hW0] at M HB0 HI0
      simp only [hW0, hg] at M ⊢
      have HBc := hid ((Below.refl W0.heap.size W0).drew)
      have hgl := hid (lt_of_heap M.out)
      have hk := hid (box2c M.out)
      have hgb : ¬ g = w.heap.size := by omega
      clear c1 c2 hW0
      go_region_held3 (fun w' => w'.cell? ⟨g, 0, none⟩ = some (.string x) ∧ w'.cell? ⟨g, 1, none⟩ = some (.string y)) (first | exact HK.out | exact ⟨(HBc.out.cell (p := ⟨g, 0, none⟩) hgl.out).trans hk.out.1, (HBc.out.cell (p := ⟨g, 1, none⟩) hgl.out).trans hk.out.2⟩)
        (first
          | (go_at_call 101; refine (C32.out _).mono ?_; rintro e w1 ⟨rfl, hb1⟩; replace HBc := hid (bb HBc.out hb1); clear hb1)
          | (go_at_call 101; refine (C61.out _).mono ?_; rintro e w1 ⟨rfl, hb1⟩; replace HBc := hid (bb HBc.out hb1); clear hb1)
          | (go_at_call 101; refine (C34.out _).mono ?_; rintro e w1 ⟨rfl, hb1⟩; replace HBc := hid (bb HBc.out hb1); clear hb1)
          | (go_at_call 96; refine (C.out _).mono ?_; rintro e w1 ⟨rfl, hb1⟩; replace HBc := hid (bb HBc.out hb1); clear hb1)
          | (go_at_call 122; refine (writeString w.heap.size w.heap.size (Lib.strCells cur) _ _ (isBuilder_below HI0.out HBc.out) hlen ?c2).mono ?_; (case c2 => (have := HBc.out.size; have := hgl.out; omega)); rintro e w2 ⟨rfl, hI2, hb2, hk2⟩; have HK := hid (pair_kept M.out HBc.out hk2 hgb (by decide)); have HI2 := hid hI2; have HB2 := hid ((bb HB0.out HBc.out).trans hb2); have HZ2 := hid (show w.heap.size < w2.heap.size by have := hb2.size; have := HBc.out.size; have := hgl.out; omega); clear hI2 hb2 hk2))
      go_wp2_with fail
      go_roundw
      case rel => exact ⟨i + 1, by go_num, by omega, by rw [HX.out, ← strCells_app]; exact HI2.out, HB2.out, HZ2.out⟩
      case measure => simp [intOf]; omega
    · have hie : i = n := by omega
      subst hie
      have e1 : atsS (l.take i) ⟨#[]⟩ = V := by rw [List.take_of_length_le (by rw [HN.out]; exact Nat.le_refl _)]; exact HV.out
      rw [e1] at HI hz2
      have e2 := str_eta V
      have hI2 := HI.out
      rw [Lib.strCells_eq] at hI2
      have C := hid (fun h => Tryz.Builder_String_any _ _ _ wr hI2 h)
      rw [e2] at C
      clear hI2 e1 e2
      go_wp2_with fail
      refine (C.out (Nat.le_of_lt hsz)).mono ?_
      rintro e w2 ⟨rfl, hb2⟩
      have HB2 := hid (HB.out.trans hb2)
      go_wp2_with fail
      go_ret
      exact ⟨rfl, HB2.out⟩

end Go.Proofs.YtkejmifkjgpdjaaGreat

namespace Go.Proofs.YtkejmifkjgpdjaaGreat
open Go.RowKit
set_option linter.unusedVariables false
set_option linter.unusedSimpArgs false

def catL (ss : List ByteArray) : ByteArray := ss.foldl (fun s x => s ++ x) ⟨#[]⟩

theorem catL_next {ss : List ByteArray} {i : Nat} (h : i < ss.length) : catL (ss.take (i + 1)) = catL (ss.take i) ++ ss[i] := by
  unfold catL
  rw [take_snocN h, List.foldl_append]
  rfl

theorem cat_size (ss : List ByteArray) (s : ByteArray) : s.size ≤ (ss.foldl (fun s x => s ++ x) s).size := by
  induction ss generalizing s with
  | nil => exact Nat.le_refl _
  | cons x ss ih =>
    have := ih (s ++ x)
    rw [ByteArray.size_append] at this
    rw [List.foldl_cons]
    omega

theorem catL_take (ss : List ByteArray) (i : Nat) : (catL (ss.take i)).size ≤ (catL ss).size := by
  unfold catL
  conv => rhs; rw [← List.take_append_drop i ss, List.foldl_append]
  exact cat_size _ _

/-- An element's text. -/
def elS (nm : ByteArray) (ds os : List At) (ss : List ByteArray) : ByteArray := ((((((((⟨#[60]⟩ : ByteArray) ++ nm) ++ atsS ds ⟨#[]⟩) ++ atsS os ⟨#[]⟩) ++ ⟨#[62]⟩) ++ catL ss) ++ ⟨#[60, 47]⟩) ++ nm) ++ ⟨#[62]⟩

/-- A row of attrs in blocks of these. -/
def RowX (X : Nat → Prop) (w : World) (a : Option Addr) (l : List At) : Prop := AtRow w a l ∧ ∀ g o, 0 < l.length → a = some ⟨g, o, none⟩ → X g

/-- A shape in memory, by blocks of these, and what it is written as. -/
def ShAt (X : Nat → Prop) (w : World) : Nat → Value → ByteArray → Prop
  | 0, _, _ => False
  | f + 1, v, s => s.size ≤ 4000000000 ∧ ((∃ t : ByteArray, v = .iface 131 (.string t) ∧ t.size ≤ 1048576 ∧ s = escS false t) ∨
    ∃ (nm : ByteArray) (a1 : Option Addr) (c1 : Nat) (ds : List At) (a2 : Option Addr) (c2 : Nat) (os : List At) (a3 : Option Addr) (c3 : Nat) (ss : List ByteArray),
      v = .iface 128 (.agg #[.string nm, .slice a1 ds.length c1, .slice a2 os.length c2, .slice a3 ss.length c3]) ∧ nm.size ≤ 1048576 ∧ RowX X w a1 ds ∧ AtSz 1048576 ds ∧ ds.length ≤ 7 ∧ RowX X w a2 os ∧ AtSz 1048576 os ∧ os.length ≤ 7 ∧ ss.length ≤ 1048576 ∧
      (∀ i (h : i < ss.length), ∃ g o u, a3 = some ⟨g, o, none⟩ ∧ X g ∧ g < w.heap.size ∧ w.cell? ⟨g, o + i, none⟩ = some u ∧ ShAt X w f u ss[i]) ∧ s = elS nm ds os ss)

theorem RowX.keep {X Y : Nat → Prop} {w w' : World} {a : Option Addr} {l : List At} (h : RowX X w a l) (hXY : ∀ g, g < w.heap.size → X g → Y g) (hs : w.heap.size ≤ w'.heap.size) (hk : ∀ g, g < w.heap.size → X g → w'.heap[g]? = w.heap[g]?) : RowX Y w' a l := by
  refine ⟨fun j hj => ?_, fun g o h0 e => ?_⟩
  · obtain ⟨b, o, rfl, hb, c1, c2⟩ := h.1 j hj
    have hx := h.2 b o (by omega) rfl
    have e : ∀ i, w'.cell? ⟨b, i, none⟩ = w.cell? ⟨b, i, none⟩ := fun i => by simp only [World.cell?, hk b hb hx]
    exact ⟨b, o, rfl, Nat.lt_of_lt_of_le hb hs, by rw [e]; exact c1, by rw [e]; exact c2⟩
  · obtain ⟨b, o', e', hb, _, _⟩ := h.1 0 h0
    subst e
    injection e' with e1
    injection e1 with e2
    subst e2
    exact hXY g hb (h.2 g o h0 rfl)

/-- It stays, where its blocks stay. -/
theorem ShAt.keep {X Y : Nat → Prop} {w w' : World} (hXY : ∀ g, g < w.heap.size → X g → Y g) (hs : w.heap.size ≤ w'.heap.size) (hk : ∀ g, g < w.heap.size → X g → w'.heap[g]? = w.heap[g]?) : ∀ {f : Nat} {v : Value} {s : ByteArray}, ShAt X w f v s → ShAt Y w' f v s
  | 0, v, s, h => h.elim
  | f + 1, v, s, h => by
    obtain ⟨h0, h | ⟨nm, a1, c1, ds, a2, c2, os, a3, c3, ss, e1, e2, e3, e4, e5, e6, e7, e8, e9, e10, e11⟩⟩ := h
    · exact ⟨h0, .inl h⟩
    · refine ⟨h0, .inr ⟨nm, a1, c1, ds, a2, c2, os, a3, c3, ss, e1, e2, e3.keep hXY hs hk, e4, e5, e6.keep hXY hs hk, e7, e8, e9, fun i hi => ?_, e11⟩⟩
      obtain ⟨g, o, u, q1, q2, q3, q4, q5⟩ := e10 i hi
      exact ⟨g, o, u, q1, hXY g q3 q2, Nat.lt_of_lt_of_le q3 hs, by rw [← q4]; simp only [World.cell?, hk g q3 q2], ShAt.keep hXY hs hk q5⟩

theorem ShAt.below {X : Nat → Prop} {w w' : World} {f : Nat} {v : Value} {s : ByteArray} (h : ShAt X w f v s) (hb : Below w.heap.size w w') : ShAt X w' f v s :=
  h.keep (fun _ _ h => h) hb.size (fun g hg _ => hb.block g hg)

theorem ShAt.size {X : Nat → Prop} {w : World} {f : Nat} {v : Value} {s : ByteArray} (h : ShAt X w f v s) : s.size ≤ 4000000000 := by
  cases f with
  | zero => exact h.elim
  | succ f => exact h.1

/-- Kids in a row. -/
def KidsAt (X : Nat → Prop) (w : World) (f : Nat) (a3 : Option Addr) (ss : List ByteArray) : Prop := ∀ i (h : i < ss.length), ∃ g o u, a3 = some ⟨g, o, none⟩ ∧ X g ∧ g < w.heap.size ∧ w.cell? ⟨g, o + i, none⟩ = some u ∧ ShAt X w f u ss[i]

theorem KidsAt.below {X : Nat → Prop} {w w' : World} {f : Nat} {a3 : Option Addr} {ss : List ByteArray} (h : KidsAt X w f a3 ss) (hb : Below w.heap.size w w') : KidsAt X w' f a3 ss := fun i hi => by
  obtain ⟨g, o, u, q1, q2, q3, q4, q5⟩ := h i hi
  exact ⟨g, o, u, q1, q2, Nat.lt_of_lt_of_le q3 hb.size, (hb.cell (p := ⟨g, o + i, none⟩) q3).trans q4, q5.below hb⟩

set_option maxRecDepth 100000 in
set_option maxHeartbeats 4000000 in
theorem cWrittenAll (f : Nat) (X : Nat → Prop) (CW : ∀ (v : Value) (s : ByteArray) (wx : World), ShAt X wx f v s → Calls Tryz.prog 58 #[v] wx fun e w' => e = .returned (.string s) ∧ Below wx.heap.size wx w')
    (a3 : Option Addr) (c3 : Nat) (ss : List ByteArray) (w : World) (hK : KidsAt X w f a3 ss) (hn : ss.length ≤ 1048576) (hz : (catL ss).size ≤ 4000000000) :
    Calls Tryz.prog 95 #[.slice a3 ss.length c3] w fun e w' => e = .returned (.string (catL ss)) ∧ Below w.heap.size w w' := by
  obtain ⟨V, hV⟩ : ∃ V, catL ss = V := ⟨_, rfl⟩
  have HV := hid hV
  have HK := hid hK
  have HC := hid CW
  have HT := hid (fun i => catL_take ss i)
  rw [hV] at hz HT ⊢
  clear hV hK CW
  obtain ⟨n, hnn⟩ : ∃ n, ss.length = n := ⟨_, rfl⟩
  have HN := hid hnn
  rw [hnn] at hn ⊢
  clear hnn
  go_enter Tryz.func95, Tryz.ntmps95
  go_wp2_with fail
  go_loopw [8] (fun k wr => ∃ i : Nat, k = .int .i64 (i : Int) ∧ i ≤ n ∧ Hid (Lib.IsBuilder 151 5 w.heap.size w.heap.size (Lib.strCells (catL (ss.take i))) wr) ∧ Hid (Below w.heap.size w wr) ∧ w.heap.size < wr.heap.size) (fun k _ => n - (intOf k).toNat)
  case atStart => exact ⟨0, rfl, Nat.zero_le _, Lib.fresh_isBuilder 151 5 _, (Below.refl _ _).alloc (Nat.le_refl _) _, by simp⟩
  case round =>
    obtain ⟨i, rfl, hi, HI, HB, hsz⟩ := hrel
    have hz2 : (Lib.strCells (catL (ss.take i))).length ≤ 4000000000 := by rw [Lib.strCells_length]; have := HT.out i; omega
    by_cases hlt : i < n
    · have his : i < ss.length := by rw [HN.out]; exact hlt
      have hin : (i : Int) < (n : Int) := by omega
      obtain ⟨g, o, u, rfl, q2, q3, q4, q5⟩ := (HK.out.below HB.out) i his
      have HX := hid (catL_next his)
      have HU := hid (HC.out u ss[i] wr q5)
      have hus := q5.size
      obtain ⟨y, hy⟩ : ∃ y, ss[i] = y := ⟨_, rfl⟩
      rw [hy] at HX HU hus
      clear hy q5 q2
      generalize catL (ss.take i) = cur at *
      go_wp2_with fail
      refine HU.out.mono ?_
      rintro e w1 ⟨rfl, hb1⟩
      have HI1 := hid (isBuilder_below HI.out hb1)
      have HB1 := hid (bb HB.out hb1)
      have hsz1 : w.heap.size < w1.heap.size := Nat.lt_of_lt_of_le hsz hb1.size
      clear hb1 HU q4 HB HI
      go_wp2_with fail
      refine (writeString w.heap.size w.heap.size (Lib.strCells cur) _ _ HI1.out (by omega) (Nat.le_of_lt hsz1)).mono ?_
      rintro e w2 ⟨rfl, hI2, hb2, hk2⟩
      have HI2 := hid hI2
      have HB2 := hid (HB1.out.trans hb2)
      have HZ2 := hid (show w.heap.size < w2.heap.size by have := hb2.size; omega)
      clear hI2 hb2 hk2
      go_wp2_with fail
      go_roundw
      case rel => exact ⟨i + 1, by go_num, by omega, by rw [HX.out, ← strCells_app]; exact HI2.out, HB2.out, HZ2.out⟩
      case measure => simp [intOf]; omega
    · have hie : i = n := by omega
      subst hie
      have e1 : catL (ss.take i) = V := by rw [List.take_of_length_le (by rw [HN.out]; exact Nat.le_refl _)]; exact HV.out
      rw [e1] at HI hz2
      have e2 := str_eta V
      have hI2 := HI.out
      rw [Lib.strCells_eq] at hI2
      have C := hid (fun h => Tryz.Builder_String_any _ _ _ wr hI2 h)
      rw [e2] at C
      clear hI2 e1 e2
      go_wp2_with fail
      refine (C.out (Nat.le_of_lt hsz)).mono ?_
      rintro e w2 ⟨rfl, hb2⟩
      have HB2 := hid (HB.out.trans hb2)
      go_wp2_with fail
      go_ret
      exact ⟨rfl, HB2.out⟩

end Go.Proofs.YtkejmifkjgpdjaaGreat
