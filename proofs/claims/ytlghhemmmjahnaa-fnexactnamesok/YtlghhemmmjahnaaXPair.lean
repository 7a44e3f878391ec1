/- Pairs of a meaning and a local in place of keys (mathematics alone); contracts of slices.Index and slices.Contains over a row of pairs. -/
import Derived.Test.YtlghhemmmjahnaaXLook
import Derived.Deep.QuietTactic
import Derived.BigQuiet
namespace Go.Proofs.Ytlghhemmmjahnaa
open Go.RowKit
set_option linter.unusedVariables false
set_option linter.unusedSimpArgs false

theorem sp_inj : ∀ (a b c d : List UInt8), (∀ x ∈ a, ¬ x = 32) → (∀ x ∈ c, ¬ x = 32) → a ++ 32 :: b = c ++ 32 :: d → a = c ∧ b = d
  | [], b, [], d, _, _, h => ⟨rfl, by simpa using h⟩
  | [], b, y :: c, d, _, hc, h => by
    simp only [List.nil_append, List.cons_append, List.cons.injEq] at h
    exact absurd h.1.symm (hc y (List.mem_cons_self ..))
  | x :: a, b, [], d, ha, _, h => by
    simp only [List.nil_append, List.cons_append, List.cons.injEq] at h
    exact absurd h.1 (ha x (List.mem_cons_self ..))
  | x :: a, b, y :: c, d, ha, hc, h => by
    simp only [List.cons_append, List.cons.injEq] at h
    obtain ⟨e1, e2⟩ := sp_inj a b c d (fun z hz => ha z (List.mem_cons_of_mem _ hz)) (fun z hz => hc z (List.mem_cons_of_mem _ hz)) h.2
    exact ⟨by rw [h.1, e1], e2⟩

/-- No blank stands in it. -/
def NoSp (s : ByteArray) : Prop := ∀ x ∈ s.data.toList, ¬ x = 32

theorem key_inj {a b c d : ByteArray} (ha : NoSp a) (hc : NoSp c) (h : (a ++ ⟨#[32]⟩) ++ b = (c ++ ⟨#[32]⟩) ++ d) : a = c ∧ b = d := by
  have h2 : a.data.toList ++ 32 :: b.data.toList = c.data.toList ++ 32 :: d.data.toList := by
    have h3 := congrArg (fun s : ByteArray => s.data.toList) h
    simpa using h3
  obtain ⟨e1, e2⟩ := sp_inj _ _ _ _ ha hc h2
  refine ⟨?_, ?_⟩
  · apply ByteArray.ext
    exact Array.toList_inj.1 e1
  · apply ByteArray.ext
    exact Array.toList_inj.1 e2

theorem of_nosp {s : ByteArray} (h : ofB sgnS 20 s = true) : NoSp s := by
  intro x hx e
  subst e
  unfold ofB at h
  rw [Bool.and_eq_true] at h
  have h2 := List.all_eq_true.1 h.1 _ hx
  revert h2
  decide

theorem look_nosp {l : List At} (hl : l.all rightB = true) (p : ByteArray) : NoSp ((lookL l p).getD ⟨#[]⟩) := by
  unfold lookL
  cases hf : l.find? (declB p) with
  | none =>
    simp only
    split
    · intro x hx; cases hx
    · intro x hx; cases hx
  | some y =>
    simp only [Option.getD_some]
    have h1 := List.all_eq_true.1 hl y (List.mem_of_find?_eq_some hf)
    have h2 := List.find?_some hf
    unfold declB at h2
    have h3 : declF y = some p := by simpa using h2
    unfold rightB at h1
    rw [h3] at h1
    simp only [Bool.and_eq_true] at h1
    exact of_nosp h1.1

noncomputable def pairN (ts : List Tk) (i : Nat) (x : At) : ByteArray × ByteArray := ((meanF ts i (preS x.name)).getD ⟨#[]⟩, locS x.name)

noncomputable def pairsN (ts : List Tk) (i : Nat) (l : List At) : List (ByteArray × ByteArray) := (l.filter cntB).map (pairN ts i)

theorem meanF_look {ts : List Tk} {i : Nat} (h : (outAts ts i).all rightB = true) (p : ByteArray) : meanF ts i p = lookL (outAts ts i) p := by
  rw [meanF_out]
  exact meanL_look p h

theorem pair_mem {ts : List Tk} {i : Nat} (h : (outAts ts i).all rightB = true) (l : List At) (x : At) : keyN ts i x ∈ keysN ts i l ↔ pairN ts i x ∈ pairsN ts i l := by
  unfold keysN pairsN
  rw [List.mem_map, List.mem_map]
  refine exists_congr fun y => and_congr_right fun _ => ?_
  unfold keyN pairN
  have n1 : NoSp ((meanF ts i (preS y.name)).getD ⟨#[]⟩) := by rw [meanF_look h]; exact look_nosp h _
  have n2 : NoSp ((meanF ts i (preS x.name)).getD ⟨#[]⟩) := by rw [meanF_look h]; exact look_nosp h _
  constructor
  · intro e
    obtain ⟨e1, e2⟩ := key_inj n1 n2 e
    rw [e1, e2]
  · intro e
    have e1 := congrArg Prod.fst e
    have e2 := congrArg Prod.snd e
    simp only at e1 e2
    rw [e1, e2]

theorem pairsN_skip {ts : List Tk} {i : Nat} {l : List At} {x : At} (hc : cntB x = false) : pairsN ts i (l ++ [x]) = pairsN ts i l := by
  unfold pairsN
  rw [List.filter_append]
  simp [hc]

theorem pairsN_more {ts : List Tk} {i : Nat} {l : List At} {x : At} (hc : cntB x = true) : pairsN ts i (l ++ [x]) = pairsN ts i l ++ [pairN ts i x] := by
  unfold pairsN
  rw [List.filter_append]
  simp [hc]

theorem cntB_is (x : At) : cntB x = (!decide ((preS x.name).size = 0) && !decide (preS x.name = nsS)) := by
  have h0 : preS nsS = ⟨#[]⟩ := by decide +kernel
  unfold cntB declF
  by_cases h1 : x.name = nsS
  · rw [if_pos h1, h1, h0]
    rfl
  · rw [if_neg h1]
    by_cases h2 : preS x.name = nsS
    · rw [if_pos h2, decide_eq_true h2]
      simp
    · rw [if_neg h2, decide_eq_false h2]
      simp

/-- Pairs as cells. -/
def prC (ps : List (ByteArray × ByteArray)) : List Value := ps.flatMap fun q => [.string q.1, .string q.2]

theorem prC_snoc (ps : List (ByteArray × ByteArray)) (q : ByteArray × ByteArray) : prC (ps ++ [q]) = prC ps ++ [.string q.1, .string q.2] := by
  unfold prC
  rw [List.flatMap_append]
  simp

theorem prC_get : ∀ (ps : List (ByteArray × ByteArray)) (j : Nat) (h : j < ps.length), (prC ps)[j * 2]? = some (.string ps[j].1) ∧ (prC ps)[j * 2 + 1]? = some (.string ps[j].2)
  | [], j, h => by simp at h
  | x :: ps, 0, h => ⟨rfl, rfl⟩
  | x :: ps, j + 1, h => by
    have := prC_get ps j (by simpa using h)
    rw [show (j + 1) * 2 = j * 2 + 1 + 1 by omega]
    exact this

/-- A row of pairs can be read. -/
def PrRow (w : World) (a : Option Addr) (ps : List (ByteArray × ByteArray)) : Prop := ∀ j (h : j < ps.length), ∃ g, a = some ⟨g, 0, none⟩ ∧ g < w.heap.size ∧ w.cell? ⟨g, j * 2, none⟩ = some (.string ps[j].1) ∧ w.cell? ⟨g, j * 2 + 1, none⟩ = some (.string ps[j].2)

theorem PrRow.below {w w' : World} {a : Option Addr} {ps : List (ByteArray × ByteArray)} (h : PrRow w a ps) (hb : Below w.heap.size w w') : PrRow w' a ps := by
  intro j hj
  obtain ⟨g, e, hg, c1, c2⟩ := h j hj
  exact ⟨g, e, Nat.lt_of_lt_of_le hg hb.size, (hb.cell (p := ⟨g, j * 2, none⟩) hg).trans c1, (hb.cell (p := ⟨g, j * 2 + 1, none⟩) hg).trans c2⟩

theorem PrRow.of {w : World} {B : Nat} {a : Option Addr} {c : Nat} {ps : List (ByteArray × ByteArray)} (h : w.ownsRow B 114 2 (.slice a ps.length c) ps.length (prC ps)) : PrRow w a ps := by
  intro j hj
  rcases h.2 with ⟨_, h0⟩ | ⟨g, cap, cur, e, hg, hh, h3⟩
  · omega
  · cases e
    obtain ⟨p1, p2⟩ := prC_get ps j hj
    exact ⟨g, rfl, lt_of_heap hh, by rw [World.ownsRow.cellAt h (j * 2) (by omega)]; exact p1, by rw [World.ownsRow.cellAt h (j * 2 + 1) (by omega)]; exact p2⟩

theorem prs_more {w1 : World} {B : Nat} {v : Value} {ps : List (ByteArray × ByteArray)} {q : ByteArray × ByteArray} (h : w1.ownsRow B 114 2 v (ps.length + 1) (prC ps ++ [.string q.1, .string q.2])) : ∃ a c, v = .slice a (ps ++ [q]).length c ∧ w1.ownsRow B 114 2 (.slice a (ps ++ [q]).length c) (ps ++ [q]).length (prC (ps ++ [q])) := by
  have e : (ps ++ [q]).length = ps.length + 1 := by rw [List.length_append]; rfl
  rw [e, prC_snoc]
  rcases h.2 with ⟨rfl, h0⟩ | ⟨g, cap, cur, rfl, h3⟩
  · omega
  · exact ⟨_, _, rfl, h⟩

/-- One of them is it. -/
noncomputable def hasP (ps : List (ByteArray × ByteArray)) (q : ByteArray × ByteArray) : Bool := open Classical in decide (q ∈ ps)

theorem hasP_t {ps : List (ByteArray × ByteArray)} {q : ByteArray × ByteArray} (h : q ∈ ps) : hasP ps q = true := by unfold hasP; simp [h]

theorem hasP_f {ps : List (ByteArray × ByteArray)} {q : ByteArray × ByteArray} (h : ¬ q ∈ ps) : hasP ps q = false := by unfold hasP; simp [h]

set_option maxRecDepth 4000 in
set_option maxHeartbeats 2000000 in
theorem cIndexP (a : Option Addr) (cap : Nat) (ps : List (ByteArray × ByteArray)) (m l : ByteArray) (w : World) (hR : PrRow w a ps) (hn : ps.length ≤ 1048576) :
    Calls Try.prog 97 #[.slice a ps.length cap, .agg #[.string m, .string l]] w fun e w' => ∃ r : Int, e = .returned (.int .i64 r) ∧ decide (0 ≤ r) = hasP ps (m, l) ∧ Below w.heap.size w w' := by
  obtain ⟨V, hV⟩ : ∃ V, hasP ps (m, l) = V := ⟨_, rfl⟩
  have HF : Hid (¬ (m, l) ∈ ps → V = false) := fun h => by rw [← hV]; exact hasP_f h
  have HT : Hid ((m, l) ∈ ps → V = true) := fun h => by rw [← hV]; exact hasP_t h
  rw [hV]
  clear hV
  have HR := hid hR
  have HB0 := hid ((Below.refl w.heap.size w).alloc (Nat.le_refl _) (.cells #[.string m, .string l] 114))
  have HX := hid (box_two w (.string m) (.string l) 114)
  clear hR
  obtain ⟨n, hnn⟩ : ∃ n, ps.length = n := ⟨_, rfl⟩
  have HN := hid hnn
  rw [hnn] at hn ⊢
  clear hnn
  go_enter Try.func97, Try.ntmps97
  go_wp2_with fail
  go_loopw [8] (fun k wr => ∃ i : Nat, k = .int .i64 (i : Int) ∧ i ≤ n ∧ Hid (¬ (m, l) ∈ ps.take i) ∧ Hid (Below (w.heap.size + 1) (w.alloc (.cells #[.string m, .string l] 114)) wr)) (fun k _ => n - (intOf k).toNat)
  case atStart => exact ⟨0, rfl, Nat.zero_le _, by show ¬ _; simp, Below.refl _ _⟩
  case round =>
    obtain ⟨i, rfl, hi, HO, HB⟩ := hrel
    have k1 := (HB.out.cell (p := ⟨w.heap.size, 0, none⟩) (Nat.lt_succ_self _)).trans HX.out.1
    have k2 := (HB.out.cell (p := ⟨w.heap.size, 1, none⟩) (Nat.lt_succ_self _)).trans HX.out.2.1
    have HBw := hid (HB0.out.trans (HB.out.mono (Nat.le_succ _)))
    by_cases hlt : i < n
    · have his : i < ps.length := by rw [HN.out]; exact hlt
      obtain ⟨g, rfl, hg, c1, c2⟩ := (HR.out.below HBw.out) i his
      have hin : (i : Int) < (n : Int) := by omega
      have hin0 : (0 : Int) ≤ (i : Int) := by omega
      have q1 := str_beq m ps[i].1
      have q2 := str_beq l ps[i].2
      have HTK := hid (take_snocN his)
      have HYES := hid (show m = ps[i].1 → l = ps[i].2 → V = true from fun e1 e2 => HT.out (by rw [e1, e2]; exact List.getElem_mem his))
      have HNO := hid (show ¬ (m = ps[i].1 ∧ l = ps[i].2) → ¬ (m, l) ∈ ps.take (i + 1) from fun h hm => by
        rw [HTK.out] at hm
        rcases List.mem_append.1 hm with h' | h'
        · exact HO.out h'
        · rw [List.mem_singleton] at h'
          exact h ⟨congrArg Prod.fst h', congrArg Prod.snd h'⟩)
      generalize ps[i].1 = m' at *
      generalize ps[i].2 = l' at *
      by_cases e1 : m = m'
      · rw [decide_eq_true e1] at q1
        by_cases e2 : l = l'
        · rw [decide_eq_true e2] at q2
          have HV := hid (HYES.out e1 e2)
          clear HNO HYES e1 e2
          go_wp2_with fail
          go_quiet (fail)
          go_wp2_with fail
          go_ret
          exact ⟨_, rfl, by rw [HV.out]; exact decide_eq_true hin0, below_drewN HBw.out _⟩
        · rw [decide_eq_false e2] at q2
          have HN2 := hid (HNO.out (fun h => e2 h.2))
          clear HNO HYES e1 e2
          go_wp2_with fail
          go_quiet (fail)
          go_wp2_with fail
          go_roundw
          case rel => exact ⟨i + 1, by go_num, by omega, HN2.out, below_drewN HB.out _⟩
          case measure => simp [intOf]; omega
      · rw [decide_eq_false e1] at q1
        have HN2 := hid (HNO.out (fun h => e1 h.1))
        clear HNO HYES e1 q2
        go_wp2_with fail
        go_quiet (fail)
        go_wp2_with fail
        go_roundw
        case rel => exact ⟨i + 1, by go_num, by omega, HN2.out, below_drewN HB.out _⟩
        case measure => simp [intOf]; omega
    · have hie : i = n := by omega
      subst hie
      have HV := hid (HF.out (by
        have h := HO.out
        rw [List.take_of_length_le (by rw [HN.out]; exact Nat.le_refl _)] at h
        exact h))
      go_wp2_with fail
      go_ret
      exact ⟨_, rfl, by rw [HV.out]; rfl, HBw.out⟩

set_option maxHeartbeats 2000000 in
theorem cContainsP (a : Option Addr) (cap : Nat) (ps : List (ByteArray × ByteArray)) (m l : ByteArray) (w : World) (hR : PrRow w a ps) (hn : ps.length ≤ 1048576) :
    Calls Try.prog 86 #[.slice a ps.length cap, .agg #[.string m, .string l]] w fun e w' => e = .returned (.bool (hasP ps (m, l))) ∧ Below w.heap.size w w' := by
  have HB0 := hid ((Below.refl w.heap.size w).alloc (Nat.le_refl _) (.cells #[.string m, .string l] 114))
  have C := hid (cIndexP a cap ps m l (w.alloc (.cells #[.string m, .string l] 114)) (hR.below HB0.out) hn)
  clear hR
  generalize hasP ps (m, l) = V at *
  generalize ps.length = n at *
  go_enter Try.func86, Try.ntmps86
  go_wp2_with fail
  refine C.out.mono ?_
  rintro e w1 ⟨r, rfl, hr, hb1⟩
  have HB1 := hid (bb HB0.out hb1)
  clear hb1 C
  go_wp2_with fail
  go_ret
  exact ⟨rfl, HB1.out⟩

end Go.Proofs.Ytlghhemmmjahnaa
