/- The tokens of a tree: each is right, no two texts side by side (plain mathematics of promise 8). Contracts of shownAttrs and ShowToken of the program. -/
import Derived.Test.YtcjeodgfpnecgaaM27
import Derived.Test.YtcjeodgfpnecgaaM18
import Derived.Test.YtcjeodgfpnecgaaM23
import Derived.Test.YtcjeodgfpnecgaaM17
import Derived.Test.YtcjeodgfpnecgaaM16
import Derived.Test.YtcjeodgfpnecgaaM2
import Derived.Deep.RegionHeld3
namespace Go.Proofs.Ytcjeodgfpnecgaa
set_option linter.unusedVariables false

theorem tokN_right {ts : List Tk} (h : TreeP ts) : ∀ f k, k < ts.length → ∀ t ∈ tokN ts f k, tokB t = true
  | 0, k, hk, t, ht => by simp [tokN] at ht
  | f + 1, k, hk, t, ht => by
    have hle := endN_le hk
    unfold tokN at ht
    rw [nodeAt_at hk] at ht
    split at ht
    · rename_i he
      rw [List.mem_singleton] at ht
      subst ht
      exact (node_tx h hk he).2.1
    · rename_i he
      rcases List.mem_cons.1 ht with rfl | ht
      · exact (node_el h hk he).2.1
      · rcases List.mem_append.1 ht with ht | ht
        · obtain ⟨i, hi, ht⟩ := List.mem_flatMap.1 ht
          have hin : i < endN ts k := List.mem_range.1 (List.mem_filter.1 hi).1
          exact tokN_right h f i (by omega) t ht
        · rw [List.mem_singleton] at ht
          subst ht
          exact (node_el h hk he).2.2

/-- No two texts side by side. -/
def NoTwo : List Tk → Prop
  | [] => True
  | [_] => True
  | a :: b :: r => ¬ (a.kind = 3 ∧ b.kind = 3) ∧ NoTwo (b :: r)

theorem NoTwo.app : ∀ {l m : List Tk}, NoTwo l → NoTwo m → (∀ a b, l.getLast? = some a → m.head? = some b → ¬ (a.kind = 3 ∧ b.kind = 3)) → NoTwo (l ++ m)
  | [], m, _, hm, _ => hm
  | [a], [], _, _, _ => trivial
  | [a], b :: r, _, hm, h => ⟨h a b rfl rfl, hm⟩
  | a :: b :: r, m, hl, hm, h => ⟨hl.1, NoTwo.app (l := b :: r) hl.2 hm (fun x y hx hy => h x y (by rw [List.getLast?_cons_cons]; exact hx) hy)⟩

/-- What the tokens of a node begin and end with. -/
theorem tokN_ends {ts : List Tk} {f k : Nat} (hf : ¬ f = 0) (hk : k < ts.length) : (∀ a, (tokN ts f k).head? = some a → (a.kind = 3 ↔ ts[k].name.size = 0)) ∧ (∀ a, (tokN ts f k).getLast? = some a → (a.kind = 3 ↔ ts[k].name.size = 0)) ∧ ¬ tokN ts f k = [] := by
  obtain ⟨f', rfl⟩ : ∃ f', f = f' + 1 := ⟨f - 1, by omega⟩
  unfold tokN
  rw [nodeAt_at hk]
  split
  · rename_i he
    refine ⟨fun a ha => ?_, fun a ha => ?_, by simp⟩
    · cases ha
      exact ⟨fun _ => he, fun _ => rfl⟩
    · cases ha
      exact ⟨fun _ => he, fun _ => rfl⟩
  · rename_i he
    refine ⟨fun a ha => ?_, fun a ha => ?_, by simp⟩
    · cases ha
      exact ⟨fun x => (by cases x), fun x => absurd x he⟩
    · rw [← List.cons_append, List.getLast?_append] at ha
      simp at ha
      subst ha
      exact ⟨fun x => (by cases x), fun x => absurd x he⟩

theorem tokN_noTwo {ts : List Tk} (h : TreeP ts) : ∀ f k, k < ts.length → ts.length - k ≤ f → NoTwo (tokN ts f k)
  | 0, k, hk, hf => by omega
  | f + 1, k, hk, hf => by
    have hle := endN_le hk
    unfold tokN
    rw [nodeAt_at hk]
    split
    · trivial
    · rename_i he
      -- the kids from e on: no two texts, and the first of them a text only where the node at e is one
      have key : ∀ d e i, endN ts k - e ≤ d → FamAt ts k i e → NoTwo ((kidsFrom ts k e (endN ts k)).flatMap (tokN ts f)) ∧ ∀ b, ((kidsFrom ts k e (endN ts k)).flatMap (tokN ts f)).head? = some b → e < endN ts k ∧ ∀ h' : e < ts.length, (b.kind = 3 ↔ ts[e].name.size = 0) := by
        intro d
        induction d with
        | zero =>
          intro e i hd fa
          have : e = endN ts k := by have := fa.hi; omega
          rw [this, kidsFrom_none (fun i g1 g2 => by omega)]
          exact ⟨trivial, fun b hb => by cases hb⟩
        | succ d ih =>
          intro e i hd fa
          rcases Nat.lt_or_eq_of_le fa.hi with h' | h'
          · have hlo := fa.lo
            have hp := fa.kid h'
            have hen : e < ts.length := by omega
            have hel := endN_le (ts := ts) (k := e) hen
            have hi : i < (kidsN ts k).length := by
              rcases Nat.lt_or_ge i (kidsN ts k).length with q | q
              · exact q
              · exfalso
                have hr := fa.rest
                rw [List.drop_of_length_le q, fam_one h hk hlo h' hp] at hr
                cases hr
            have st := (fa.step h hk hi).2.2.2
            obtain ⟨i1, i2⟩ := ih (endN ts e) (i + 1) (by omega) st
            obtain ⟨t1, t2, t3⟩ := tokN_ends (ts := ts) (f := f) (k := e) (by omega) hen
            rw [fam_one h hk hlo h' hp, List.flatMap_cons]
            refine ⟨NoTwo.app (tokN_noTwo h f e hen (by omega)) i1 (fun a b ha hb ⟨ka, kb⟩ => ?_), fun b hb => ⟨h', fun _ => ?_⟩⟩
            · have ea := (t2 a ha).1 ka
              obtain ⟨hlt, hb2⟩ := i2 b hb
              have hn1 := (node_tx h hen ea).2.2.1
              rw [hn1] at hlt hb2
              have hl1 : e + 1 < ts.length := by omega
              have eb := (hb2 hl1).1 kb
              have hk1 : parI ts (e + 1) = (k : Int) := by have := st.kid (by rw [hn1]; exact hlt); rw [hn1] at this; exact this
              refine (h.2.2.2.2 (e + 1) hl1).2.2.2 ⟨hl1, by omega, eb, ea, ?_⟩
              have q1 := parI_at hl1
              have q2 := parI_at hen
              show ts[e].kind = ts[e + 1].kind
              rw [← q1, ← q2, hk1, hp]
            · rw [List.head?_append] at hb
              cases e0 : (tokN ts f e).head? with
              | none => exact absurd (List.head?_eq_none_iff.1 e0) t3
              | some x =>
                rw [e0] at hb
                cases hb
                exact t1 _ e0
          · rw [h', kidsFrom_none (fun i g1 g2 => by omega)]
            exact ⟨trivial, fun b hb => by cases hb⟩
      obtain ⟨k1, _⟩ := key (endN ts k - (k + 1)) (k + 1) 0 (Nat.le_refl _) (fam_start h hk)
      rw [kidsTo_from hle.1]
      refine NoTwo.app (l := [opT ts[k]]) trivial (NoTwo.app k1 (m := [clT ts[k]]) trivial (fun a b _ hb ⟨_, kb⟩ => ?_)) (fun a b ha _ ⟨ka, _⟩ => ?_)
      · cases hb
        cases kb
      · cases ha
        cases ka

theorem NoTwo.at_ : ∀ {l : List Tk}, NoTwo l → ∀ i (h : i + 1 < l.length), ¬ (l[i].kind = 3 ∧ l[i + 1].kind = 3)
  | [], _, i, hi => absurd hi (by simp)
  | [a], _, i, hi => absurd hi (by simp)
  | a :: b :: r, h, 0, hi => h.1
  | a :: b :: r, h, i + 1, hi => NoTwo.at_ (l := b :: r) h.2 i (by simpa using hi)

end Go.Proofs.Ytcjeodgfpnecgaa

namespace Go.Proofs.Ytcjeodgfpnecgaa
open Go.RowKit
set_option linter.unusedVariables false
set_option linter.unusedSimpArgs false

theorem strCells_app (a b : ByteArray) : Lib.strCells a ++ Lib.strCells b = Lib.strCells (a ++ b) := by
  simp [Lib.strCells]

theorem of_size {a b c : ByteArray} (h : a ++ b = c) : c.size = a.size + b.size := by rw [← h, ByteArray.size_append]

theorem str_eta (s : ByteArray) : (⟨s.data.toList.toArray⟩ : ByteArray) = s := by
  apply ByteArray.ext
  simp

theorem atS_assoc (x y : ByteArray) : ((((((⟨#[32]⟩ : ByteArray) ++ x) ++ ⟨#[61]⟩) ++ ⟨#[34]⟩) ++ y) ++ ⟨#[34]⟩) = (((((⟨#[32]⟩ : ByteArray) ++ x) ++ ⟨#[61, 34]⟩) ++ y) ++ ⟨#[34]⟩) := by
  have e : (⟨#[61, 34]⟩ : ByteArray) = ⟨#[61]⟩ ++ ⟨#[34]⟩ := rfl
  rw [e]
  simp only [ByteArray.append_assoc]

theorem pair_kept {w0 w w2 : World} {g b : Nat} {x y : Value} {T e : TypeId} (M : w0.heap[g]? = some (.cells #[x, y] T (0, 0))) (hb : Below w0.heap.size w0 w) (hk : Lib.OthersKept e (some b) w w2) (hg : ¬ g = b) (hT : ¬ T = e) :
    w2.cell? ⟨g, 0, none⟩ = some x ∧ w2.cell? ⟨g, 1, none⟩ = some y :=
  box2c (hk g _ ((hb.block g (lt_of_heap M)).trans M) (by simpa using hg) (fun c fz h => by injection h with _ h2 _; exact hT h2))

theorem c_itself_32 (w : World) : Calls Try.prog 72 #[.int .u8 32] w fun e w' => e = .returned (.string ⟨#[32]⟩) ∧ Below w.heap.size w w' := c__impl_sign__itself 32 w
theorem c_itself_61 (w : World) : Calls Try.prog 72 #[.int .u8 61] w fun e w' => e = .returned (.string ⟨#[61]⟩) ∧ Below w.heap.size w w' := c__impl_sign__itself 61 w
theorem c_itself_34 (w : World) : Calls Try.prog 72 #[.int .u8 34] w fun e w' => e = .returned (.string ⟨#[34]⟩) ∧ Below w.heap.size w w' := c__impl_sign__itself 34 w

set_option maxRecDepth 100000 in
set_option maxHeartbeats 4000000 in
theorem cShownAttrs (a : Option Addr) (cap : Nat) (l : List At) (w : World) (hR : AtRow w a l) (hz : AtSz 1048576 l) (h6 : l.length ≤ 6) :
    Calls Try.prog 48 #[.slice a l.length cap] w fun e w' => e = .returned (.string (atsS l ⟨#[]⟩)) ∧ Below w.heap.size w w' := by
  obtain ⟨V, hV⟩ : ∃ V, atsS l ⟨#[]⟩ = V := ⟨_, rfl⟩
  have HV := hid hV
  rw [hV]
  clear hV
  have HR := hid hR
  have HZ := hid hz
  clear hR hz
  obtain ⟨n, hn⟩ : ∃ n, l.length = n := ⟨_, rfl⟩
  have HN := hid hn
  rw [hn] at h6 ⊢
  clear hn
  go_enter Try.func48, Try.ntmps48
  go_wp2_with fail
  go_loopw [8] (fun k wr => ∃ i : Nat, k = .int .i64 (i : Int) ∧ i ≤ n ∧ Hid (Lib.IsBuilder 46 5 w.heap.size w.heap.size (Lib.strCells (atsS (l.take i) ⟨#[]⟩)) wr) ∧ Hid (Below w.heap.size w wr) ∧ w.heap.size < wr.heap.size) (fun k _ => n - (intOf k).toNat)
  case atStart => exact ⟨0, rfl, Nat.zero_le _, Lib.fresh_isBuilder 46 5 _, (Below.refl _ _).alloc (Nat.le_refl _) _, by simp⟩
  case round =>
    obtain ⟨i, rfl, hi, HI, HB, hsz⟩ := hrel
    have HS1 := atsS_size (l.take i) ⟨#[]⟩ (fun x hx => HZ.out x (List.mem_of_mem_take hx))
    rw [show (⟨#[]⟩ : ByteArray).size = 0 from rfl, List.length_take] at HS1
    have hz2 : (Lib.strCells (atsS (l.take i) ⟨#[]⟩)).length ≤ 60000000 := by rw [Lib.strCells_length]; omega
    clear HS1
    by_cases hlt : i < n
    · have his : i < l.length := by rw [HN.out]; exact hlt
      have hin : (i : Int) < (n : Int) := by omega
      obtain ⟨b, o, rfl, hb, c1, c2⟩ := (HR.out.below HB.out) i his
      obtain ⟨z1, z2⟩ := HZ.out _ (List.getElem_mem his)
      have HX := hid (show atsS (l.take (i + 1)) ⟨#[]⟩ = atsS (l.take i) ⟨#[]⟩ ++ atS l[i] by rw [take_snocN his, atsS_snoc])
      have e0 : atS l[i] = ((((((⟨#[32]⟩ : ByteArray) ++ l[i].name) ++ ⟨#[61]⟩) ++ ⟨#[34]⟩) ++ escS true l[i].value) ++ ⟨#[34]⟩) := (atS_assoc _ _).symm
      rw [e0] at HX
      have z3 := escS_size true l[i].value
      have C := hid (fun w => c_impl_Escaped l[i].value true w z2)
      have e1 : (⟨(escapedL true l[i].value.data.toList).toArray⟩ : ByteArray) = escS true l[i].value := rfl
      rw [e1] at C
      generalize escS true l[i].value = E at *
      generalize l[i].name = x at *
      generalize l[i].value = y at *
      generalize atsS (l.take i) ⟨#[]⟩ = cur at *
      clear e0 e1
      have C32 := hid c_itself_32
      have C61 := hid c_itself_61
      have C34 := hid c_itself_34
      obtain ⟨B32, q32⟩ : ∃ B : ByteArray, (⟨#[32]⟩ : ByteArray) = B := ⟨_, rfl⟩
      obtain ⟨B61, q61⟩ : ∃ B : ByteArray, (⟨#[61]⟩ : ByteArray) = B := ⟨_, rfl⟩
      obtain ⟨B34, q34⟩ : ∃ B : ByteArray, (⟨#[34]⟩ : ByteArray) = B := ⟨_, rfl⟩
      rw [q32] at C32 HX
      rw [q61] at C61 HX
      rw [q34] at C34 HX
      have v32 : B32.size = 1 := by rw [← q32]; rfl
      have v61 : B61.size = 1 := by rw [← q61]; rfl
      have v34 : B34.size = 1 := by rw [← q34]; rfl
      clear q32 q61 q34
      obtain ⟨S1, h1⟩ : ∃ S, B32 ++ x = S := ⟨_, rfl⟩
      obtain ⟨S2, h2⟩ : ∃ S, S1 ++ B61 = S := ⟨_, rfl⟩
      obtain ⟨S3, h3⟩ : ∃ S, S2 ++ B34 = S := ⟨_, rfl⟩
      obtain ⟨S4, h4⟩ : ∃ S, S3 ++ E = S := ⟨_, rfl⟩
      obtain ⟨S5, h5⟩ : ∃ S, S4 ++ B34 = S := ⟨_, rfl⟩
      rw [h1, h2, h3, h4, h5] at HX
      have g1 := of_size h1
      have g2 := of_size h2
      have g3 := of_size h3
      have g4 := of_size h4
      have g5 := of_size h5
      have f1 : ¬ 9223372036854775807 < B32.size + x.size := by omega
      have f2 : ¬ 9223372036854775807 < S1.size + B61.size := by omega
      have f3 : ¬ 9223372036854775807 < S2.size + B34.size := by omega
      have f4 : ¬ 9223372036854775807 < S3.size + E.size := by omega
      have f5 : ¬ 9223372036854775807 < S4.size + B34.size := by omega
      have hlen : (Lib.strCells cur).length + S5.size ≤ 140737488355328 := by omega
      clear g1 g2 g3 g4 g5 v32 v61 v34 z1 z2 z3 hz2
      have M := hid (heap_alloc_new wr (.cells #[.string x, .string y] 72))
      have HB0 := hid (HB.out.alloc HB.out.size (.cells #[.string x, .string y] 72))
      have HI0 := hid (isBuilder_below HI.out ((Below.refl wr.heap.size wr).alloc (Nat.le_refl _) (.cells #[.string x, .string y] 72)))
      obtain ⟨g, hg⟩ : ∃ g, wr.heap.size = g := ⟨_, rfl⟩
      have Hg := hid hg
      go_wp2_with fail
      obtain ⟨W0, hW0⟩ : ∃ W0, wr.alloc (.cells #[.string x, .string y] 72) = W0 := ⟨_, rfl⟩
      rw [hW0] at M HB0 HI0
      simp only [hW0, hg] at M ⊢
      have HBc := hid ((Below.refl W0.heap.size W0).drew)
      have hgl := hid (lt_of_heap M.out)
      have hk := hid (box2c M.out)
      have hgb : ¬ g = w.heap.size := by omega
      clear c1 c2 hW0
      go_region_held3 (fun w' => w'.cell? ⟨g, 0, none⟩ = some (.string x) ∧ w'.cell? ⟨g, 1, none⟩ = some (.string y)) (first | exact HK.out | exact ⟨(HBc.out.cell (p := ⟨g, 0, none⟩) hgl.out).trans hk.out.1, (HBc.out.cell (p := ⟨g, 1, none⟩) hgl.out).trans hk.out.2⟩)
        (first
          | (go_at_call 72; refine (C32.out _).mono ?_; rintro e w1 ⟨rfl, hb1⟩; replace HBc := hid (bb HBc.out hb1); clear hb1)
          | (go_at_call 72; refine (C61.out _).mono ?_; rintro e w1 ⟨rfl, hb1⟩; replace HBc := hid (bb HBc.out hb1); clear hb1)
          | (go_at_call 72; refine (C34.out _).mono ?_; rintro e w1 ⟨rfl, hb1⟩; replace HBc := hid (bb HBc.out hb1); clear hb1)
          | (go_at_call 49; refine (C.out _).mono ?_; rintro e w1 ⟨rfl, hb1⟩; replace HBc := hid (bb HBc.out hb1); clear hb1)
          | (go_at_call 21; refine (writeString w.heap.size w.heap.size (Lib.strCells cur) _ _ (isBuilder_below HI0.out HBc.out) hlen ?c2).mono ?_; (case c2 => (have := HBc.out.size; have := hgl.out; omega)); rintro e w2 ⟨rfl, hI2, hb2, hk2⟩; have HK := hid (pair_kept M.out HBc.out hk2 hgb (by decide)); have HI2 := hid hI2; have HB2 := hid ((bb HB0.out HBc.out).trans hb2); have HZ2 := hid (show w.heap.size < w2.heap.size by have := hb2.size; have := HBc.out.size; have := hgl.out; omega); clear hI2 hb2 hk2))
      go_wp2_with fail
      go_roundw
      case rel => exact ⟨i + 1, by go_num, by omega, by rw [HX.out, ← strCells_app]; exact HI2.out, HB2.out, HZ2.out⟩
      case measure => simp [intOf]; omega
    · have hie : i = n := by omega
      subst hie
      have e1 : atsS (l.take i) ⟨#[]⟩ = V := by rw [List.take_of_length_le (by rw [HN.out]; exact Nat.le_refl _)]; exact HV.out
      rw [e1] at HI hz2
      have e2 := str_eta V
      have hI2 := HI.out
      rw [Lib.strCells_eq] at hI2
      have C := hid (fun h => Try.Builder_String_any _ _ _ wr hI2 h)
      rw [e2] at C
      clear hI2 e1 e2
      go_wp2_with fail
      refine (C.out (Nat.le_of_lt hsz)).mono ?_
      rintro e w2 ⟨rfl, hb2⟩
      have HB2 := hid (HB.out.trans hb2)
      go_wp2_with fail
      go_ret
      exact ⟨rfl, HB2.out⟩

theorem atsS_app (l : List At) (s : ByteArray) : atsS l s = s ++ atsS l ⟨#[]⟩ := by
  have H : ∀ (l : List At) (s t : ByteArray), atsS l (s ++ t) = s ++ atsS l t := by
    intro l
    induction l with
    | nil => intro s t; rfl
    | cons x l ih => intro s t; show atsS l ((s ++ t) ++ atS x) = s ++ atsS l (t ++ atS x); rw [ByteArray.append_assoc, ih]
  have e := H l s ⟨#[]⟩
  rwa [show s ++ (⟨#[]⟩ : ByteArray) = s from by apply ByteArray.ext; simp] at e

theorem tokB_kind {t : Tk} (h : tokB t = true) : t.kind = 1 ∨ t.kind = 2 ∨ t.kind = 3 := by
  unfold tokB at h
  split at h
  · exact .inl (by assumption)
  · split at h
    · exact .inr (.inl (by assumption))
    · split at h
      · exact .inr (.inr (by assumption))
      · cases h

set_option maxRecDepth 8000 in
set_option maxHeartbeats 2000000 in
theorem cShowTokenI (t : Tk) (a : Option Addr) (cap : Nat) (w : World) (hR : AtRow w a t.attrs) (hz : TkSz 1048576 t) :
    Calls Try.prog 22 #[tkV t a cap] w fun e w' => e = .returned (.string (shownT t)) ∧ Below w.heap.size w w' := by
  have HB0 := hid ((Below.refl w.heap.size w).alloc (Nat.le_refl _) (.cells #[.int .i64 t.kind, .string t.name, .slice a t.attrs.length cap, .string t.text] 50))
  have HR := hid (hR.below HB0.out)
  have M0 := hid (heap_alloc_new w (.cells #[.int .i64 t.kind, .string t.name, .slice a t.attrs.length cap, .string t.text] 50))
  have CO := fun w h => cTokenOkI t a cap w h hz
  clear hR
  cases q : tokB t
  · rw [show shownT t = ⟨#[]⟩ by unfold shownT; rw [q]; rfl]
    rw [q] at CO
    go_enter Try.func22, Try.ntmps22
    go_wp2_with fail
    refine (CO _ HR.out).mono ?_
    rintro e w1 ⟨rfl, hb1⟩
    have HB1 := hid (bb HB0.out hb1)
    go_wp2_with fail
    go_ret
    exact ⟨rfl, HB1.out⟩
  · rw [show shownT t = showS t by unfold shownT; rw [q]; rfl]
    rw [q] at CO
    have h6 := tokB_len q
    have hk := tokB_kind q
    obtain ⟨k, name, l, text⟩ := t
    obtain ⟨h1, _, h3, h4⟩ := hz
    simp only at h1 h3 h4 h6 hk HB0 HR M0
    clear q
    simp only [tkV] at CO ⊢
    have CO := hid CO
    rcases hk with rfl | rfl | rfl
    · have e0 : showS ⟨1, name, l, text⟩ = (((⟨#[60]⟩ : ByteArray) ++ name) ++ atsS l ⟨#[]⟩) ++ ⟨#[62]⟩ := by
        show atsS l ((⟨#[60]⟩ : ByteArray) ++ name) ++ ⟨#[62]⟩ = _
        rw [atsS_app]
      rw [e0]
      have CL := hid (fun w h => cShownAttrs a cap l w h h3 h6)
      have hs := atsS_size l ⟨#[]⟩ h3
      rw [show (⟨#[]⟩ : ByteArray).size = 0 from rfl] at hs
      generalize atsS l ⟨#[]⟩ = X at *
      obtain ⟨n, hn⟩ : ∃ n, l.length = n := ⟨_, rfl⟩
      rw [hn] at CL CO HB0 HR M0 hs h6 ⊢
      clear e0 hn h3
      go_enter Try.func22, Try.ntmps22
      go_wp2_with fail
      refine (CO.out _ HR.out).mono ?_
      rintro e w1 ⟨rfl, hb1⟩
      have HB1 := hid (bb HB0.out hb1)
      have HR1 := hid (HR.out.below hb1)
      have M1 := hid (blk_below M0.out hb1)
      obtain ⟨⟨x0, x1, x2, x3⟩, _⟩ := box4 M1.out
      clear hb1 HB0 HR M0
      have D1 := fun (p : BW w1) => (p.h.cell (p := ⟨w.heap.size, 1, none⟩) (lt_of_heap M1.out)).trans x1
      have D2 := fun (p : BW w1) => (p.h.cell (p := ⟨w.heap.size, 2, none⟩) (lt_of_heap M1.out)).trans x2
      have HNB := hid (bw_any w1)
      go_wp2_with fail
      haveI := HNB.out
      refine wp_region_below (by kernel_rfl) (by kernel_rfl) (Below.refl w1.heap.size w1) ?_
      repeat (go_big_quiet_step ((go_at_call 48; exact calls_bw _ (CL.out _ (HR1.out.below (BW.h _))))))
      refine wpQuiet_nil ?_
      intro _ hw'
      obtain ⟨⟨wq, hwq⟩, hw''⟩ := hw'
      subst hw''
      have HB2 := hid (bb HB1.out hwq)
      go_wp2_with fail
      go_ret
      exact ⟨rfl, HB2.out⟩
    · rw [show showS ⟨2, name, l, text⟩ = ((⟨#[60, 47]⟩ : ByteArray) ++ name) ++ ⟨#[62]⟩ from rfl]
      clear h3
      generalize l.length = n at *
      go_enter Try.func22, Try.ntmps22
      go_wp2_with fail
      refine (CO.out _ HR.out).mono ?_
      rintro e w1 ⟨rfl, hb1⟩
      have HB1 := hid (bb HB0.out hb1)
      obtain ⟨⟨x0, x1, x2, x3⟩, _⟩ := box4 (blk_below M0.out hb1)
      clear hb1 HB0 HR M0
      go_wp2_with fail
      go_ret
      exact ⟨rfl, HB1.out⟩
    · rw [show showS ⟨3, name, l, text⟩ = escS false text from rfl]
      have C := hid (fun w => c_impl_Escaped text false w h4)
      have e1 : (⟨(escapedL false text.data.toList).toArray⟩ : ByteArray) = escS false text := rfl
      rw [e1] at C
      generalize escS false text = E at *
      clear h3 e1
      generalize l.length = n at *
      go_enter Try.func22, Try.ntmps22
      go_wp2_with fail
      refine (CO.out _ HR.out).mono ?_
      rintro e w1 ⟨rfl, hb1⟩
      have HB1 := hid (bb HB0.out hb1)
      obtain ⟨⟨x0, x1, x2, x3⟩, _⟩ := box4 (blk_below M0.out hb1)
      clear hb1 HB0 HR M0
      go_wp2_with fail
      refine (C.out _).mono ?_
      rintro e w2 ⟨rfl, hb2⟩
      have HB2 := hid (bb HB1.out hb2)
      go_wp2_with fail
      go_ret
      exact ⟨rfl, HB2.out⟩

end Go.Proofs.Ytcjeodgfpnecgaa
