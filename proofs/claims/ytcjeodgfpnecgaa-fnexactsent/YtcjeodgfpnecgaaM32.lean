/- Contract of ShowTree of the program. The letters of bytes and back, over plain lists: what ToLetters writes, what both ways of reading it make of it. -/
import Derived.Test.YtcjeodgfpnecgaaM28
import Derived.Test.YtcjeodgfpnecgaaM30
import Derived.Test.YtcjeodgfpnecgaaM31
import Derived.Test.YtcjeodgfpnecgaaM19
import Derived.Lib.Bytealg
import Derived.Lib.IndexLaws
namespace Go.Proofs.Ytcjeodgfpnecgaa
open Go.RowKit
set_option linter.unusedVariables false
set_option linter.unusedSimpArgs false

theorem shownN_all (ts : List Tk) : shownN ts = showAll (toksT ts) := by
  unfold shownN toksT
  split <;> rfl

theorem toksT_facts {ts : List Tk} (hz : TksSz 1048576 ts) : (toksT ts).length ≤ 100 ∧ ∀ t ∈ toksT ts, tokB t = true ∧ TkSz 1048576 t ∧ (showS t).size ≤ 60000000 := by
  have hsz := toksT_sz hz
  unfold toksT at hsz ⊢
  split
  · rename_i q
    rw [if_pos q] at hsz
    have ht := treeB_P q
    have h1 := ht.1
    have h2 := ht.2.1
    have h3 := tokN_len (ts := ts) ts.length 0 (by omega)
    have h4 := endN_le (ts := ts) (k := 0) (by omega)
    exact ⟨by omega, fun t hm => ⟨tokN_right ht _ _ (by omega) t hm, hsz t hm, showS_size (hsz t hm) (tokN_six (tree_six ht) _ _ t hm)⟩⟩
  · exact ⟨Nat.zero_le _, fun t hm => absurd hm List.not_mem_nil⟩

/-- A row of tokens stands behind what a builder does. -/
theorem Tn.Row.others {w w' : World} {B b : Nat} {v : Value} {es : List Tn.E} (h : Tn.Row w B v es) (hk : Lib.OthersKept 5 (some b) w w') (hb : b < B) : Tn.Row w' B v es := by
  refine ⟨own_others h.own hk hb (by decide), fun e he => ⟨fun hl => ?_, (h.ats e he).2⟩, h.apart⟩
  obtain ⟨g, o, cu, e1, e2, e3, e4⟩ := (h.ats e he).1 hl
  exact ⟨g, o, cu, e1, e2, hk g _ e3 (fun e => by have := Option.some.inj e; omega) (fun c fz e => by injection e with _ e5 _; exact absurd e5 (by decide)), e4⟩

set_option maxRecDepth 8000 in
set_option maxHeartbeats 4000000 in
theorem cShowTreeI (a : Option Addr) (cap : Nat) (ts : List Tk) (w : World) (hR : TkRow w a ts) (hn : ts.length ≤ 1048576) (hz : TksSz 1048576 ts) :
    Calls Try.prog 13 #[.slice a ts.length cap] w fun e w' => e = .returned (.string (shownN ts)) ∧ Below w.heap.size w w' := by
  have HB0 := hid ((Below.refl w.heap.size w).alloc (Nat.le_refl _) (.cells #[.pointer none, .slice none 0 0] 46))
  have C := hid (cTokensOfI a cap ts (w.alloc (.cells #[.pointer none, .slice none 0 0] 46)) (hR.below HB0.out) hn hz)
  have HKS := hid (toksT_facts hz)
  have HF := hid (Lib.fresh_isBuilder 46 5 w)
  rw [shownN_all]
  obtain ⟨K, hK⟩ : ∃ K, toksT ts = K := ⟨_, rfl⟩
  rw [hK] at C HKS ⊢
  clear hR hz hK
  generalize ts.length = n at *
  go_enter Try.func13, Try.ntmps13
  go_wp2_with fail
  refine C.out.mono ?_
  rintro e w1 ⟨a1, c1, es, rfl, hr1, hm1, hb1⟩
  have HO := hid (show Tn.Row w1 (w.heap.size + 1) (.slice a1 es.length c1) es by have h := hr1; rw [show (w.alloc (.cells #[.pointer none, .slice none 0 0] 46)).heap.size = w.heap.size + 1 by simp] at h; exact h)
  have HMP := hid hm1
  have HI1 := hid (isBuilder_below HF.out hb1)
  have HB1 := hid (bb HB0.out hb1)
  have hsz1 : w.heap.size < w1.heap.size := by have := hb1.size; simp at this; omega
  have HKL := hid (show K.length = es.length by rw [← hm1, List.length_map])
  obtain ⟨L, hL⟩ : ∃ L, es.length = L := ⟨_, rfl⟩
  have HL := hid hL
  have hLn : L ≤ 100 := by have := HKS.out.1; rw [HKL.out, hL] at this; exact this
  rw [hL] at HO HKL ⊢
  clear hb1 hr1 hm1 C hL HB0
  go_wp2_with fail
  go_loopw [9] (fun k wr => ∃ i : Nat, k = .int .i64 (i : Int) ∧ i ≤ L ∧ Hid (Lib.IsBuilder 46 5 w.heap.size w.heap.size (Lib.strCells (showAll (K.take i))) wr) ∧ Hid (Tn.Row wr (w.heap.size + 1) (.slice a1 L c1) es) ∧ Hid (Below w.heap.size w wr) ∧ w.heap.size < wr.heap.size) (fun k _ => L - (intOf k).toNat)
  case atStart => exact ⟨0, rfl, Nat.zero_le _, HI1.out, HO.out, HB1.out, hsz1⟩
  case round =>
    clear HI1 HO HB1 HF
    obtain ⟨i, rfl, hi, HI, HO, HB, hsz⟩ := hrel
    have hjs : (showAll (K.take i)).size ≤ 60000000 * i := by
      have := showAll_size (l := K.take i) (fun t ht => (HKS.out.2 t (List.mem_of_mem_take ht)).2.2)
      rw [List.length_take] at this
      have h2 : min i K.length ≤ i := Nat.min_le_left _ _
      have h3 := Nat.mul_le_mul_left 60000000 h2
      omega
    by_cases hlt : i < L
    · have hiK : i < K.length := by rw [HKL.out]; exact hlt
      have hin : (i : Int) < (L : Int) := by omega
      have HX := hid (show showAll (K.take (i + 1)) = showAll (K.take i) ++ showS K[i] by rw [take_snocN hiK, showAll_snoc])
      obtain ⟨hq1, hq2, hq3⟩ := HKS.out.2 K[i] (List.getElem_mem hiK)
      obtain ⟨a2, c2, ea, htk⟩ := HO.out.tkRow
      rw [HMP.out] at htk
      obtain ⟨rfl, rfl⟩ : a1 = a2 ∧ c1 = c2 := by cases ea; exact ⟨rfl, rfl⟩
      obtain ⟨b, o, aa, ca, rfl, hb, k0, k1, k2, k3, cr⟩ := htk i hiK
      have e0 : shownT K[i] = showS K[i] := by unfold shownT; rw [if_pos hq1]
      have HBA := hid ((Below.refl wr.heap.size wr).alloc (Nat.le_refl _) (.cells #[.int .i64 K[i].kind, .string K[i].name, .slice aa K[i].attrs.length ca, .string K[i].text] 50))
      have CS := hid (fun wx (h : AtRow wx aa K[i].attrs) => cShowTokenI K[i] aa ca wx h hq2)
      have CR := hid (cr.below HBA.out)
      rw [e0] at CS
      generalize K[i] = t at *
      obtain ⟨tk, tn, tl, tx⟩ := t
      simp only [tkV] at k0 k1 k2 k3 CS CR HBA
      generalize showS ⟨tk, tn, tl, tx⟩ = SS at *
      obtain ⟨m, hm⟩ : ∃ m, tl.length = m := ⟨_, rfl⟩
      rw [hm] at k2 HBA CS CR
      clear ea htk cr hq1 hq2 e0 hm
      go_wp2_with fail
      refine (CS.out _ CR.out).mono ?_
      rintro e w2 ⟨rfl, hb2⟩
      have HB2 := hid (bb HBA.out hb2)
      have C2 := hid (writeString w.heap.size w.heap.size (Lib.strCells (showAll (K.take i))) SS w2 (isBuilder_below HI.out HB2.out) (by rw [strC_len]; omega) (by have := HB2.out.size; omega))
      clear hb2 hjs
      go_wp2_with fail
      refine C2.out.mono ?_
      rintro e w3 ⟨rfl, hI3, hb3, hk3⟩
      have HI3 := hid hI3
      have HB3 := hid ((bb HB.out HB2.out).trans hb3)
      have HO3 := hid ((HO.out.below HB2.out).others hk3 (Nat.lt_succ_self _))
      have hsz3 : w.heap.size < w3.heap.size := by have := hb3.size; have := HB2.out.size; omega
      clear hI3 hb3 hk3 C2
      go_wp2_with fail
      go_roundw
      case rel => exact ⟨i + 1, by go_num, by omega, by rw [HX.out, ← strC_app]; exact HI3.out, HO3.out, HB3.out, hsz3⟩
      case measure => simp [intOf]; omega
    · have hie : i = L := by omega
      subst hie
      have e1 : showAll (K.take i) = showAll K := by rw [List.take_of_length_le (by rw [HKL.out]; exact Nat.le_refl _)]
      rw [e1] at HI
      obtain ⟨V, hV⟩ : ∃ V, showAll K = V := ⟨_, rfl⟩
      have HV := hid hV
      rw [hV] at HI
      clear hV
      have e2 := strC_eta V
      have hI2 := HI.out
      rw [Lib.strCells_eq] at hI2
      have C := hid (fun h => Try.Builder_String_any _ _ _ wr hI2 h)
      rw [e2] at C
      clear hI2 e1 e2 hjs
      go_wp2_with fail
      refine (C.out (Nat.le_of_lt hsz)).mono ?_
      rintro e w2 ⟨rfl, hb2⟩
      have HB2 := hid (HB.out.trans hb2)
      go_wp2_with fail
      go_ret
      exact ⟨by rw [HV.out]; rfl, HB2.out⟩

end Go.Proofs.Ytcjeodgfpnecgaa

namespace Go.Proofs.Ytcjeodgfpnecgaa

/-- The 64 letters in their order. -/
def alphaL : List UInt8 := [65, 66, 67, 68, 69, 70, 71, 72, 73, 74, 75, 76, 77, 78, 79, 80, 81, 82, 83, 84, 85, 86, 87, 88, 89, 90, 97, 98, 99, 100, 101, 102, 103, 104, 105, 106, 107, 108, 109, 110, 111, 112, 113, 114, 115, 116, 117, 118, 119, 120, 121, 122, 48, 49, 50, 51, 52, 53, 54, 55, 56, 57, 43, 47]

def letN (n : Nat) : UInt8 := alphaL.getD n 0

def valN (b : UInt8) : Int := Lib.indexByte alphaL b

theorem alpha_len : alphaL.length = 64 := by decide

theorem val_let : ∀ n : Fin 64, valN (letN n.val) = (n.val : Int) := by decide +kernel
theorem val_let' (n : Nat) (h : n < 64) : valN (letN n) = n := val_let ⟨n, h⟩
theorem let_ne : ∀ n : Fin 64, letN n.val ≠ 61 := by decide +kernel
theorem let_ne' (n : Nat) (h : n < 64) : letN n ≠ 61 := let_ne ⟨n, h⟩
theorem val_fill : valN 61 = -1 := by decide +kernel
theorem val_ge (b : UInt8) : -1 ≤ valN b := Lib.indexByte_ge _ _
theorem val_get {b : UInt8} (h : 0 ≤ valN b) : alphaL[(valN b).toNat]? = some b := (Lib.indexByte_some (l := alphaL) (c := b) (o := (valN b).toNat) (by show valN b = _; omega)).1
theorem val_lt (b : UInt8) : valN b < 64 := by
  by_cases h : 0 ≤ valN b
  · have h1 := val_get h
    have h2 := (List.getElem?_eq_some_iff.1 h1).1
    rw [alpha_len] at h2
    omega
  · omega
theorem let_val {b : UInt8} (h : 0 ≤ valN b) : letN (valN b).toNat = b := by
  unfold letN
  rw [List.getD_eq_getElem?_getD, val_get h]
  rfl

/-- What ToLetters writes. -/
def toL : List UInt8 → List UInt8
  | [] => []
  | [a] => [letN (a.toNat / 4), letN (a.toNat % 4 * 16), 61, 61]
  | [a, b] => [letN (a.toNat / 4), letN (a.toNat % 4 * 16 + b.toNat / 16), letN (b.toNat % 16 * 4), 61]
  | a :: b :: c :: r => letN (a.toNat / 4) :: letN (a.toNat % 4 * 16 + b.toNat / 16) :: letN (b.toNat % 16 * 4 + c.toNat / 64) :: letN (c.toNat % 64) :: toL r

theorem toL_len : ∀ l : List UInt8, (toL l).length = (l.length + 2) / 3 * 4
  | [] => rfl
  | [_] => by simp [toL]
  | [_, _] => by simp [toL]
  | a :: b :: c :: r => by
    have := toL_len r
    simp only [toL, List.length_cons, this]
    omega

/-! ### The program's own writing: held bits and their count -/

def stepE (s : Nat × Nat × List UInt8) (x : UInt8) : Nat × Nat × List UInt8 :=
  if s.2.1 = 0 then (x.toNat % 4, 2, s.2.2 ++ [letN (x.toNat / 4)])
  else if s.2.1 = 2 then ((s.1 * 256 + x.toNat) % 16, 4, s.2.2 ++ [letN ((s.1 * 256 + x.toNat) / 16)])
  else (0, 0, s.2.2 ++ [letN ((s.1 * 256 + x.toNat) / 64), letN ((s.1 * 256 + x.toNat) % 64)])

def stE (l : List UInt8) : Nat × Nat × List UInt8 := l.foldl stepE (0, 0, [])

theorem stE_snoc (l : List UInt8) (x : UInt8) : stE (l ++ [x]) = stepE (stE l) x := by simp [stE]

def okE (s : Nat × Nat × List UInt8) : Prop :=
  (s.2.1 = 0 ∧ s.1 = 0 ∧ s.2.2.length % 4 = 0) ∨ (s.2.1 = 2 ∧ s.1 < 4 ∧ s.2.2.length % 4 = 1) ∨ (s.2.1 = 4 ∧ s.1 < 16 ∧ s.2.2.length % 4 = 2)

theorem stepE_ok {s : Nat × Nat × List UInt8} (h : okE s) (x : UInt8) : okE (stepE s x) := by
  obtain ⟨hh, c, out⟩ := s
  have hx := x.toNat_lt
  rcases h with ⟨h1, h2, h3⟩ | ⟨h1, h2, h3⟩ | ⟨h1, h2, h3⟩ <;> simp only at h1 h2 h3 <;> subst h1
  · exact .inr (.inl ⟨rfl, by simp [stepE]; omega, by simp [stepE]; omega⟩)
  · exact .inr (.inr ⟨rfl, by simp [stepE]; omega, by simp [stepE]; omega⟩)
  · exact .inl ⟨rfl, rfl, by simp [stepE]; omega⟩

theorem stE_ok (l : List UInt8) : okE (stE l) := by
  suffices h : ∀ (l : List UInt8) (s : Nat × Nat × List UInt8), okE s → okE (l.foldl stepE s) from h l _ (.inl ⟨rfl, rfl, rfl⟩)
  intro l
  induction l with
  | nil => intro s h; exact h
  | cons x r ih => intro s h; exact ih _ (stepE_ok h x)

theorem stepE_len (s : Nat × Nat × List UInt8) (x : UInt8) : (stepE s x).2.2.length ≤ s.2.2.length + 2 := by
  unfold stepE
  split
  · simp
  · split <;> simp

theorem stE_len (l : List UInt8) : (stE l).2.2.length ≤ 2 * l.length := by
  suffices h : ∀ (l : List UInt8) (s : Nat × Nat × List UInt8), (l.foldl stepE s).2.2.length ≤ s.2.2.length + 2 * l.length by
    have := h l (0, 0, [])
    simpa [stE] using this
  intro l
  induction l with
  | nil => intro s; simp
  | cons x r ih =>
    intro s
    have h1 := ih (stepE s x)
    have h2 := stepE_len s x
    simp only [List.foldl_cons, List.length_cons]
    omega

def finE (s : Nat × Nat × List UInt8) : List UInt8 :=
  if s.2.1 = 0 then s.2.2
  else if s.2.1 = 2 then s.2.2 ++ [letN (s.1 * 16), 61, 61]
  else s.2.2 ++ [letN (s.1 * 4), 61]

theorem sp64 (x y : Nat) : (x * 256 + y) / 64 = x * 4 + y / 64 := by omega
theorem sq64 (x y : Nat) : (x * 256 + y) % 64 = y % 64 := by omega

theorem fin_toL : ∀ (l out : List UInt8), finE (l.foldl stepE (0, 0, out)) = out ++ toL l
  | [], out => by simp [finE, toL]
  | [a], out => by simp [finE, toL, stepE]
  | [a, b], out => by
    have ha := a.toNat_lt
    have hb := b.toNat_lt
    have e1 : (a.toNat % 4 * 256 + b.toNat) / 16 = a.toNat % 4 * 16 + b.toNat / 16 := by omega
    have e2 : (a.toNat % 4 * 256 + b.toNat) % 16 = b.toNat % 16 := by omega
    simp [finE, toL, stepE, e1, e2]
  | a :: b :: c :: r, out => by
    have ha := a.toNat_lt
    have hb := b.toNat_lt
    have hc := c.toNat_lt
    have e1 : (a.toNat % 4 * 256 + b.toNat) / 16 = a.toNat % 4 * 16 + b.toNat / 16 := by omega
    have e2 : (a.toNat % 4 * 256 + b.toNat) % 16 = b.toNat % 16 := by omega
    have e3 : (b.toNat % 16 * 256 + c.toNat) / 64 = b.toNat % 16 * 4 + c.toNat / 64 := sp64 _ _
    have e4 : (b.toNat % 16 * 256 + c.toNat) % 64 = c.toNat % 64 := sq64 _ _
    have ih := fin_toL r (out ++ [letN (a.toNat / 4), letN (a.toNat % 4 * 16 + b.toNat / 16), letN (b.toNat % 16 * 4 + c.toNat / 64), letN (c.toNat % 64)])
    simp [toL, stepE, e1, e2, e3, e4] at ih ⊢
    exact ih

theorem toL_stE (l : List UInt8) : toL l = finE (stE l) := by
  have := fin_toL l []
  simpa [stE] using this.symm

/-! ### Groups of three -/

/-- The letters of one group: 'left' bytes are there, n is what they make. -/
def grpE (n left k : Nat) : UInt8 := if left < k then 61 else letN (n / 2 ^ (18 - 6 * k) % 64)

theorem grpE_no {n left k : Nat} (h : left < k) : grpE n left k = 61 := by simp [grpE, h]
theorem grpE_0 (n left : Nat) : grpE n left 0 = letN (n / 262144 % 64) := by simp [grpE]
theorem grpE_1 (n left : Nat) (h : 1 ≤ left) : grpE n left 1 = letN (n / 4096 % 64) := by simp [grpE, show ¬ left < 1 by omega]
theorem grpE_2 (n left : Nat) (h : 2 ≤ left) : grpE n left 2 = letN (n / 64 % 64) := by simp [grpE, show ¬ left < 2 by omega]
theorem grpE_3 (n left : Nat) (h : 3 ≤ left) : grpE n left 3 = letN (n % 64) := by simp [grpE, show ¬ left < 3 by omega]

theorem grp1 (a : UInt8) : toL [a] = [grpE (a.toNat * 65536) 1 0, grpE (a.toNat * 65536) 1 1, grpE (a.toNat * 65536) 1 2, grpE (a.toNat * 65536) 1 3] := by
  have ha := a.toNat_lt
  have e1 : a.toNat * 65536 / 262144 % 64 = a.toNat / 4 := by omega
  have e2 : a.toNat * 65536 / 4096 % 64 = a.toNat % 4 * 16 := by omega
  rw [grpE_0, grpE_1 _ _ (by omega), grpE_no (by omega), grpE_no (by omega), e1, e2]
  simp [toL]

theorem grp2 (a b : UInt8) : toL [a, b] = [grpE (a.toNat * 65536 + b.toNat * 256) 2 0, grpE (a.toNat * 65536 + b.toNat * 256) 2 1, grpE (a.toNat * 65536 + b.toNat * 256) 2 2, grpE (a.toNat * 65536 + b.toNat * 256) 2 3] := by
  have ha := a.toNat_lt
  have hb := b.toNat_lt
  have e1 : (a.toNat * 65536 + b.toNat * 256) / 262144 % 64 = a.toNat / 4 := by omega
  have e2 : (a.toNat * 65536 + b.toNat * 256) / 4096 % 64 = a.toNat % 4 * 16 + b.toNat / 16 := by omega
  have e3 : (a.toNat * 65536 + b.toNat * 256) / 64 % 64 = b.toNat % 16 * 4 := by omega
  rw [grpE_0, grpE_1 _ _ (by omega), grpE_2 _ _ (by omega), grpE_no (by omega), e1, e2, e3]
  simp [toL]

theorem grp3 (a b c : UInt8) (r : List UInt8) (left : Nat) (hl : 3 ≤ left) : toL (a :: b :: c :: r) = [grpE (a.toNat * 65536 + b.toNat * 256 + c.toNat) left 0, grpE (a.toNat * 65536 + b.toNat * 256 + c.toNat) left 1, grpE (a.toNat * 65536 + b.toNat * 256 + c.toNat) left 2, grpE (a.toNat * 65536 + b.toNat * 256 + c.toNat) left 3] ++ toL r := by
  have ha := a.toNat_lt
  have hb := b.toNat_lt
  have hc := c.toNat_lt
  have e1 : (a.toNat * 65536 + b.toNat * 256 + c.toNat) / 262144 % 64 = a.toNat / 4 := by omega
  have e2 : (a.toNat * 65536 + b.toNat * 256 + c.toNat) / 4096 % 64 = a.toNat % 4 * 16 + b.toNat / 16 := by omega
  have e3 : (a.toNat * 65536 + b.toNat * 256 + c.toNat) / 64 % 64 = b.toNat % 16 * 4 + c.toNat / 64 := by omega
  have e4 : (a.toNat * 65536 + b.toNat * 256 + c.toNat) % 64 = c.toNat % 64 := by omega
  rw [grpE_0, grpE_1 _ _ (by omega), grpE_2 _ _ (by omega), grpE_3 _ _ (by omega), e1, e2, e3, e4]
  simp [toL]

end Go.Proofs.Ytcjeodgfpnecgaa
