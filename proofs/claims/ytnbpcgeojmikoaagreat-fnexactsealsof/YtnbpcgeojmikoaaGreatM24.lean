/- Pairs of a meaning and a local in place of keys (mathematics alone); contracts of slices.Index and slices.Contains over a row of pairs. Contracts of the program's attrNamesOk, elementNamesOk and NamesOk. Seals in the program: contract of SealsOf. -/
import Derived.Test.YtnbpcgeojmikoaaGreatM21
import Derived.Test.YtnbpcgeojmikoaaGreatM23
import Derived.Test.YtnbpcgeojmikoaaGreatM16
import Derived.Deep.QuietTactic
import Derived.BigQuiet
namespace Go.Proofs.YtnbpcgeojmikoaaGreat
open Go.RowKit
set_option linter.unusedVariables false
set_option linter.unusedSimpArgs false

theorem sp_inj : ∀ (a b c d : List UInt8), (∀ x ∈ a, ¬ x = 32) → (∀ x ∈ c, ¬ x = 32) → a ++ 32 :: b = c ++ 32 :: d → a = c ∧ b = d
  | [], b, [], d, _, _, h => ⟨rfl, by simpa using h⟩
  | [], b, y :: c, d, _, hc, h => by
    simp only [List.nil_append, List.cons_append, List.cons.injEq] at h
    exact absurd h.1.symm (hc y (List.mem_cons_self ..))
  | x :: a, b, [], d, ha, _, h => by
    simp only [List.nil_append, List.cons_append, List.cons.injEq] at h
    exact absurd h.1 (ha x (List.mem_cons_self ..))
  | x :: a, b, y :: c, d, ha, hc, h => by
    simp only [List.cons_append, List.cons.injEq] at h
    obtain ⟨e1, e2⟩ := sp_inj a b c d (fun z hz => ha z (List.mem_cons_of_mem _ hz)) (fun z hz => hc z (List.mem_cons_of_mem _ hz)) h.2
    exact ⟨by rw [h.1, e1], e2⟩

/-- No blank stands in it. -/
def NoSp (s : ByteArray) : Prop := ∀ x ∈ s.data.toList, ¬ x = 32

theorem key_inj {a b c d : ByteArray} (ha : NoSp a) (hc : NoSp c) (h : (a ++ ⟨#[32]⟩) ++ b = (c ++ ⟨#[32]⟩) ++ d) : a = c ∧ b = d := by
  have h2 : a.data.toList ++ 32 :: b.data.toList = c.data.toList ++ 32 :: d.data.toList := by
    have h3 := congrArg (fun s : ByteArray => s.data.toList) h
    simpa using h3
  obtain ⟨e1, e2⟩ := sp_inj _ _ _ _ ha hc h2
  refine ⟨?_, ?_⟩
  · apply ByteArray.ext
    exact Array.toList_inj.1 e1
  · apply ByteArray.ext
    exact Array.toList_inj.1 e2

theorem of_nosp {s : ByteArray} (h : ofB sgnS 20 s = true) : NoSp s := by
  intro x hx e
  subst e
  unfold ofB at h
  rw [Bool.and_eq_true] at h
  have h2 := List.all_eq_true.1 h.1 _ hx
  revert h2
  decide

theorem look_nosp {l : List At} (hl : l.all rightB = true) (p : ByteArray) : NoSp ((lookL l p).getD ⟨#[]⟩) := by
  unfold lookL
  cases hf : l.find? (declB p) with
  | none =>
    simp only
    split
    · intro x hx; cases hx
    · intro x hx; cases hx
  | some y =>
    simp only [Option.getD_some]
    have h1 := List.all_eq_true.1 hl y (List.mem_of_find?_eq_some hf)
    have h2 := List.find?_some hf
    unfold declB at h2
    have h3 : declF y = some p := by simpa using h2
    unfold rightB at h1
    rw [h3] at h1
    simp only [Bool.and_eq_true] at h1
    exact of_nosp h1.1

noncomputable def pairN (ts : List Tk) (i : Nat) (x : At) : ByteArray × ByteArray := ((meanF ts i (preS x.name)).getD ⟨#[]⟩, locS x.name)

noncomputable def pairsN (ts : List Tk) (i : Nat) (l : List At) : List (ByteArray × ByteArray) := (l.filter cntB).map (pairN ts i)

theorem meanF_look {ts : List Tk} {i : Nat} (h : (outAts ts i).all rightB = true) (p : ByteArray) : meanF ts i p = lookL (outAts ts i) p := by
  rw [meanF_out]
  exact meanL_look p h

theorem pair_mem {ts : List Tk} {i : Nat} (h : (outAts ts i).all rightB = true) (l : List At) (x : At) : keyN ts i x ∈ keysN ts i l ↔ pairN ts i x ∈ pairsN ts i l := by
  unfold keysN pairsN
  rw [List.mem_map, List.mem_map]
  refine exists_congr fun y => and_congr_right fun _ => ?_
  unfold keyN pairN
  have n1 : NoSp ((meanF ts i (preS y.name)).getD ⟨#[]⟩) := by rw [meanF_look h]; exact look_nosp h _
  have n2 : NoSp ((meanF ts i (preS x.name)).getD ⟨#[]⟩) := by rw [meanF_look h]; exact look_nosp h _
  constructor
  · intro e
    obtain ⟨e1, e2⟩ := key_inj n1 n2 e
    rw [e1, e2]
  · intro e
    have e1 := congrArg Prod.fst e
    have e2 := congrArg Prod.snd e
    simp only at e1 e2
    rw [e1, e2]

theorem pairsN_skip {ts : List Tk} {i : Nat} {l : List At} {x : At} (hc : cntB x = false) : pairsN ts i (l ++ [x]) = pairsN ts i l := by
  unfold pairsN
  rw [List.filter_append]
  simp [hc]

theorem pairsN_more {ts : List Tk} {i : Nat} {l : List At} {x : At} (hc : cntB x = true) : pairsN ts i (l ++ [x]) = pairsN ts i l ++ [pairN ts i x] := by
  unfold pairsN
  rw [List.filter_append]
  simp [hc]

theorem cntB_is (x : At) : cntB x = (!decide ((preS x.name).size = 0) && !decide (preS x.name = nsS)) := by
  have h0 : preS nsS = ⟨#[]⟩ := by decide +kernel
  unfold cntB declF
  by_cases h1 : x.name = nsS
  · rw [if_pos h1, h1, h0]
    rfl
  · rw [if_neg h1]
    by_cases h2 : preS x.name = nsS
    · rw [if_pos h2, decide_eq_true h2]
      simp
    · rw [if_neg h2, decide_eq_false h2]
      simp

/-- Pairs as cells. -/
def prC (ps : List (ByteArray × ByteArray)) : List Value := ps.flatMap fun q => [.string q.1, .string q.2]

theorem prC_snoc (ps : List (ByteArray × ByteArray)) (q : ByteArray × ByteArray) : prC (ps ++ [q]) = prC ps ++ [.string q.1, .string q.2] := by
  unfold prC
  rw [List.flatMap_append]
  simp

theorem prC_get : ∀ (ps : List (ByteArray × ByteArray)) (j : Nat) (h : j < ps.length), (prC ps)[j * 2]? = some (.string ps[j].1) ∧ (prC ps)[j * 2 + 1]? = some (.string ps[j].2)
  | [], j, h => by simp at h
  | x :: ps, 0, h => ⟨rfl, rfl⟩
  | x :: ps, j + 1, h => by
    have := prC_get ps j (by simpa using h)
    rw [show (j + 1) * 2 = j * 2 + 1 + 1 by omega]
    exact this

/-- A row of pairs can be read. -/
def PrRow (w : World) (a : Option Addr) (ps : List (ByteArray × ByteArray)) : Prop := ∀ j (h : j < ps.length), ∃ g, a = some ⟨g, 0, none⟩ ∧ g < w.heap.size ∧ w.cell? ⟨g, j * 2, none⟩ = some (.string ps[j].1) ∧ w.cell? ⟨g, j * 2 + 1, none⟩ = some (.string ps[j].2)

theorem PrRow.below {w w' : World} {a : Option Addr} {ps : List (ByteArray × ByteArray)} (h : PrRow w a ps) (hb : Below w.heap.size w w') : PrRow w' a ps := by
  intro j hj
  obtain ⟨g, e, hg, c1, c2⟩ := h j hj
  exact ⟨g, e, Nat.lt_of_lt_of_le hg hb.size, (hb.cell (p := ⟨g, j * 2, none⟩) hg).trans c1, (hb.cell (p := ⟨g, j * 2 + 1, none⟩) hg).trans c2⟩

theorem PrRow.of {w : World} {B : Nat} {a : Option Addr} {c : Nat} {ps : List (ByteArray × ByteArray)} (h : w.ownsRow B 108 2 (.slice a ps.length c) ps.length (prC ps)) : PrRow w a ps := by
  intro j hj
  rcases h.2 with ⟨_, h0⟩ | ⟨g, cap, cur, e, hg, hh, h3⟩
  · omega
  · cases e
    obtain ⟨p1, p2⟩ := prC_get ps j hj
    exact ⟨g, rfl, lt_of_heap hh, by rw [World.ownsRow.cellAt h (j * 2) (by omega)]; exact p1, by rw [World.ownsRow.cellAt h (j * 2 + 1) (by omega)]; exact p2⟩

theorem prs_more {w1 : World} {B : Nat} {v : Value} {ps : List (ByteArray × ByteArray)} {q : ByteArray × ByteArray} (h : w1.ownsRow B 108 2 v (ps.length + 1) (prC ps ++ [.string q.1, .string q.2])) : ∃ a c, v = .slice a (ps ++ [q]).length c ∧ w1.ownsRow B 108 2 (.slice a (ps ++ [q]).length c) (ps ++ [q]).length (prC (ps ++ [q])) := by
  have e : (ps ++ [q]).length = ps.length + 1 := by rw [List.length_append]; rfl
  rw [e, prC_snoc]
  rcases h.2 with ⟨rfl, h0⟩ | ⟨g, cap, cur, rfl, h3⟩
  · omega
  · exact ⟨_, _, rfl, h⟩

/-- One of them is it. -/
noncomputable def hasP (ps : List (ByteArray × ByteArray)) (q : ByteArray × ByteArray) : Bool := open Classical in decide (q ∈ ps)

theorem hasP_t {ps : List (ByteArray × ByteArray)} {q : ByteArray × ByteArray} (h : q ∈ ps) : hasP ps q = true := by unfold hasP; simp [h]

theorem hasP_f {ps : List (ByteArray × ByteArray)} {q : ByteArray × ByteArray} (h : ¬ q ∈ ps) : hasP ps q = false := by unfold hasP; simp [h]

set_option maxRecDepth 4000 in
set_option maxHeartbeats 2000000 in
theorem cIndexP (a : Option Addr) (cap : Nat) (ps : List (ByteArray × ByteArray)) (m l : ByteArray) (w : World) (hR : PrRow w a ps) (hn : ps.length ≤ 1048576) :
    Calls Tryz.prog 100 #[.slice a ps.length cap, .agg #[.string m, .string l]] w fun e w' => ∃ r : Int, e = .returned (.int .i64 r) ∧ decide (0 ≤ r) = hasP ps (m, l) ∧ Below w.heap.size w w' := by
  obtain ⟨V, hV⟩ : ∃ V, hasP ps (m, l) = V := ⟨_, rfl⟩
  have HF : Hid (¬ (m, l) ∈ ps → V = false) := fun h => by rw [← hV]; exact hasP_f h
  have HT : Hid ((m, l) ∈ ps → V = true) := fun h => by rw [← hV]; exact hasP_t h
  rw [hV]
  clear hV
  have HR := hid hR
  have HB0 := hid ((Below.refl w.heap.size w).alloc (Nat.le_refl _) (.cells #[.string m, .string l] 108))
  have HX := hid (box_two w (.string m) (.string l) 108)
  clear hR
  obtain ⟨n, hnn⟩ : ∃ n, ps.length = n := ⟨_, rfl⟩
  have HN := hid hnn
  rw [hnn] at hn ⊢
  clear hnn
  go_enter Tryz.func100, Tryz.ntmps100
  go_wp2_with fail
  go_loopw [8] (fun k wr => ∃ i : Nat, k = .int .i64 (i : Int) ∧ i ≤ n ∧ Hid (¬ (m, l) ∈ ps.take i) ∧ Hid (Below (w.heap.size + 1) (w.alloc (.cells #[.string m, .string l] 108)) wr)) (fun k _ => n - (intOf k).toNat)
  case atStart => exact ⟨0, rfl, Nat.zero_le _, by show ¬ _; simp, Below.refl _ _⟩
  case round =>
    obtain ⟨i, rfl, hi, HO, HB⟩ := hrel
    have k1 := (HB.out.cell (p := ⟨w.heap.size, 0, none⟩) (Nat.lt_succ_self _)).trans HX.out.1
    have k2 := (HB.out.cell (p := ⟨w.heap.size, 1, none⟩) (Nat.lt_succ_self _)).trans HX.out.2.1
    have HBw := hid (HB0.out.trans (HB.out.mono (Nat.le_succ _)))
    by_cases hlt : i < n
    · have his : i < ps.length := by rw [HN.out]; exact hlt
      obtain ⟨g, rfl, hg, c1, c2⟩ := (HR.out.below HBw.out) i his
      have hin : (i : Int) < (n : Int) := by omega
      have hin0 : (0 : Int) ≤ (i : Int) := by omega
      have q1 := str_beq m ps[i].1
      have q2 := str_beq l ps[i].2
      have HTK := hid (take_snocN his)
      have HYES := hid (show m = ps[i].1 → l = ps[i].2 → V = true from fun e1 e2 => HT.out (by rw [e1, e2]; exact List.getElem_mem his))
      have HNO := hid (show ¬ (m = ps[i].1 ∧ l = ps[i].2) → ¬ (m, l) ∈ ps.take (i + 1) from fun h hm => by
        rw [HTK.out] at hm
        rcases List.mem_append.1 hm with h' | h'
        · exact HO.out h'
        · rw [List.mem_singleton] at h'
          exact h ⟨congrArg Prod.fst h', congrArg Prod.snd h'⟩)
      generalize ps[i].1 = m' at *
      generalize ps[i].2 = l' at *
      by_cases e1 : m = m'
      · rw [decide_eq_true e1] at q1
        by_cases e2 : l = l'
        · rw [decide_eq_true e2] at q2
          have HV := hid (HYES.out e1 e2)
          clear HNO HYES e1 e2
          go_wp2_with fail
          go_quiet (fail)
          go_wp2_with fail
          go_ret
          exact ⟨_, rfl, by rw [HV.out]; exact decide_eq_true hin0, below_drewN HBw.out _⟩
        · rw [decide_eq_false e2] at q2
          have HN2 := hid (HNO.out (fun h => e2 h.2))
          clear HNO HYES e1 e2
          go_wp2_with fail
          go_quiet (fail)
          go_wp2_with fail
          go_roundw
          case rel => exact ⟨i + 1, by go_num, by omega, HN2.out, below_drewN HB.out _⟩
          case measure => simp [intOf]; omega
      · rw [decide_eq_false e1] at q1
        have HN2 := hid (HNO.out (fun h => e1 h.1))
        clear HNO HYES e1 q2
        go_wp2_with fail
        go_quiet (fail)
        go_wp2_with fail
        go_roundw
        case rel => exact ⟨i + 1, by go_num, by omega, HN2.out, below_drewN HB.out _⟩
        case measure => simp [intOf]; omega
    · have hie : i = n := by omega
      subst hie
      have HV := hid (HF.out (by
        have h := HO.out
        rw [List.take_of_length_le (by rw [HN.out]; exact Nat.le_refl _)] at h
        exact h))
      go_wp2_with fail
      go_ret
      exact ⟨_, rfl, by rw [HV.out]; rfl, HBw.out⟩

set_option maxHeartbeats 2000000 in
theorem cContainsP (a : Option Addr) (cap : Nat) (ps : List (ByteArray × ByteArray)) (m l : ByteArray) (w : World) (hR : PrRow w a ps) (hn : ps.length ≤ 1048576) :
    Calls Tryz.prog 87 #[.slice a ps.length cap, .agg #[.string m, .string l]] w fun e w' => e = .returned (.bool (hasP ps (m, l))) ∧ Below w.heap.size w w' := by
  have HB0 := hid ((Below.refl w.heap.size w).alloc (Nat.le_refl _) (.cells #[.string m, .string l] 108))
  have C := hid (cIndexP a cap ps m l (w.alloc (.cells #[.string m, .string l] 108)) (hR.below HB0.out) hn)
  clear hR
  generalize hasP ps (m, l) = V at *
  generalize ps.length = n at *
  go_enter Tryz.func87, Tryz.ntmps87
  go_wp2_with fail
  refine C.out.mono ?_
  rintro e w1 ⟨r, rfl, hr, hb1⟩
  have HB1 := hid (bb HB0.out hb1)
  clear hb1 C
  go_wp2_with fail
  go_ret
  exact ⟨rfl, HB1.out⟩

end Go.Proofs.YtnbpcgeojmikoaaGreat

namespace Go.Proofs.YtnbpcgeojmikoaaGreat
open Go.RowKit
set_option linter.unusedVariables false
set_option linter.unusedSimpArgs false

theorem infoPr : (Tryz.prog.info? 108).map (fun i => (i.zero, i.size, i.bytes)) = some (some (.agg #[.string ⟨#[]⟩, .string ⟨#[]⟩]), 2, 32) := by kernel_rfl

theorem two_cell (t : TypeId) (w : World) (x y : Value) : ∀ j u, [x, y][j]? = some u → (w.alloc (.cells #[x, y] t)).cell? ((⟨w.heap.size, 0, none⟩ : Addr).add j) = some u := by
  intro j u hj
  match j, hj with
  | 0, hj => simp at hj; subst hj; simp [Addr.add]
  | 1, hj => simp at hj; subst hj; simp [Addr.add]

theorem two_str (s t : ByteArray) : ∀ u ∈ [Value.string s, .string t], u.oneCell' = true := by
  intro u hu
  simp at hu
  rcases hu with rfl | rfl <;> rfl

set_option maxRecDepth 4000 in
set_option maxHeartbeats 8000000 in
theorem cAttrNames (aa : Option Addr) (ca : Nat) (at0 : List At) (F : FuncId) (C : Array Value) (ts : List Tk) (i : Nat) (w : World) (B : Bool) (hB : B = true ↔ AttrsN ts i at0) (hF : Asks F C w (outAts ts i)) (hr : (outAts ts i).all rightB = true) (hR : AtRow w aa at0) (hz : AtSz 1048576 at0) (hn : at0.length ≤ 1048576) :
    Calls Tryz.prog 66 #[.slice aa at0.length ca, .func (.func F) #[] C] w fun e w' => e = .returned (.bool B) ∧ Below w.heap.size w w' := by
  obtain ⟨i0, hi, hz0, hz1, hz2⟩ := info_parts infoPr
  have HI := hid (And.intro hi (And.intro hz0 (And.intro hz1 hz2)))
  clear hi hz0 hz1 hz2
  have HBT := hid (show AttrsN ts i at0 → B = true from hB.2)
  have HBF := hid (show ¬ AttrsN ts i at0 → B = false from fun h => by
    cases B with
    | false => rfl
    | true => exact absurd (hB.1 rfl) h)
  have HMEM := hid (fun l x => pair_mem hr l x)
  have HE := hid hF.1
  have CF := hid (fun p wx (hb : Below w.heap.size w wx) (hp : p.size ≤ 1048576) => hF.2 p wx hb hp)
  have HLK := hid (fun p => meanF_look hr p)
  have HR := hid hR
  have HZ := hid hz
  clear hB hF hr hR hz
  obtain ⟨n, hnn⟩ : ∃ n, at0.length = n := ⟨_, rfl⟩
  have HN := hid hnn
  rw [hnn] at hn ⊢
  clear hnn
  go_enter Tryz.func66, Tryz.ntmps66
  go_wp2_with fail
  go_loopw [5, 15] (fun v5 v15 wr => ∃ (j : Nat) (a8 : Option Addr) (c8 : Nat) (ps : List (ByteArray × ByteArray)), v15 = .int .i64 (j : Int) ∧ j ≤ n ∧ v5 = .slice a8 ps.length c8 ∧ ps.length ≤ j ∧ Hid (ps = pairsN ts i (at0.take j) ∧ AttrsN ts i (at0.take j)) ∧ Hid (wr.ownsRow w.heap.size 108 2 (.slice a8 ps.length c8) ps.length (prC ps)) ∧ Hid (Below w.heap.size w wr)) (fun _ v15 _ => n - (intOf v15).toNat)
  case atStart => exact ⟨0, none, 0, [], rfl, Nat.zero_le _, rfl, Nat.zero_le _, ⟨rfl, by rw [List.take_zero]; exact attrsN_nil.1⟩, World.ownsRow_nil _ _ _ _, Below.refl _ _⟩
  case round =>
    obtain ⟨j, a8, c8, ps, rfl, hj, rfl, hps, HK, HO, HB⟩ := hrel
    by_cases hjl : j < n
    · have hjt : j < at0.length := by rw [HN.out]; exact hjl
      have hjn : (j : Int) < (n : Int) := by omega
      obtain ⟨b, o, rfl, hb, c1, c2⟩ := (HR.out.below HB.out) j hjt
      have HS := hid (HZ.out _ (List.getElem_mem hjt))
      have HTS := hid (take_snocN hjt)
      obtain ⟨y, hy⟩ : ∃ y, at0[j] = y := ⟨_, rfl⟩
      rw [hy] at c1 c2 HS HTS
      clear hy
      have HNT := hid (show ¬ AttrsN ts i (at0.take j ++ [y]) → B = false from fun h => HBF.out (fun ha => h (by rw [← HTS.out]; exact attrsN_take (j + 1) ha)))
      have CP := hid (fun wx => cPartsI y.name wx HS.out.1)
      have hcn := cntB_is y
      have HPN := hid (show pairN ts i y = ((meanF ts i (preS y.name)).getD ⟨#[]⟩, locS y.name) from rfl)
      have CM := hid (fun wx (hb : Below w.heap.size w wx) => CF.out (preS y.name) wx hb (preS_sz HS.out.1))
      rw [← HLK.out] at CM
      have HMI := hid (fun (h : cntB y = true) (q : (meanF ts i (preS y.name)).isSome = false) => HNT.out (attrsN_bad h (.inl q)))
      have HMK := hid (fun (h : cntB y = true) (q : pairN ts i y ∈ ps) => HNT.out (attrsN_bad h (.inr ((HMEM.out _ _).2 (by rw [← HK.out.1]; exact q)))))
      have HMO := hid (fun (h : cntB y = true) (q : (meanF ts i (preS y.name)).isSome = true) (q2 : ¬ pairN ts i y ∈ ps) => (attrsN_more HK.out.2 h q (fun h3 => q2 (by rw [HK.out.1]; exact (HMEM.out _ _).1 h3))).1)
      have EP := empty_is (preS y.name)
      have EN := ns_beq (preS y.name)
      have he := HE.out (preS y.name)
      obtain ⟨M, hM⟩ : ∃ M, (meanF ts i (preS y.name)).getD ⟨#[]⟩ = M := ⟨_, rfl⟩
      obtain ⟨I, hI⟩ : ∃ I, (meanF ts i (preS y.name)).isSome = I := ⟨_, rfl⟩
      rw [hM] at CM HPN
      rw [hI] at CM HMI HMO
      obtain ⟨P, hP⟩ : ∃ P, preS y.name = P := ⟨_, rfl⟩
      obtain ⟨L, hL⟩ : ∃ L, locS y.name = L := ⟨_, rfl⟩
      rw [hP] at CP CM EP EN he hcn
      rw [hL] at CP HPN
      rw [HPN.out] at HMK HMO
      clear hM hI hP hL HMEM HLK
      have HBX := hid (HB.out.alloc HB.out.size (.cells #[.string y.name, .string y.value] 57))
      have HO1 := hid (HO.out.alloc (.cells #[.string y.name, .string y.value] 57))
      obtain ⟨nk, hnk⟩ : ∃ nk, ps.length = nk := ⟨_, rfl⟩
      have HNK := hid hnk
      rw [hnk] at hps HO1 ⊢
      clear hnk HO
      obtain ⟨nm, hnm⟩ : ∃ nm, y.name = nm := ⟨_, rfl⟩
      obtain ⟨vl, hvl⟩ : ∃ vl, y.value = vl := ⟨_, rfl⟩
      rw [hnm] at c1 CP HBX HO1
      rw [hvl] at c2 HBX HO1
      clear hnm hvl
      go_wp2_with fail
      refine (CP.out _).mono ?_
      rintro e w1 ⟨rfl, hb1⟩
      have HB1 := hid (bb HBX.out hb1)
      have HO2 := hid (ownsRow_below HO1.out hb1)
      clear hb1 HBX CP c1 c2 HO1 hb HB
      by_cases h0 : P.size = 0
      · rw [decide_eq_true h0] at EP hcn
        have HC := hid (show cntB y = false from hcn)
        have HS2 := hid (attrsN_skip HK.out.2 HC.out)
        have HS3 := hid (pairsN_skip (ts := ts) (i := i) (l := at0.take j) HC.out)
        rw [← HTS.out] at HS2 HS3
        clear hcn h0 he EN
        go_wp2_with fail
        go_roundw
        case rel => exact ⟨j + 1, a8, c8, ps, by go_num, by omega, by rw [HNK.out], by rw [HNK.out]; omega, ⟨by rw [HS3.out]; exact HK.out.1, HS2.out.1⟩, by rw [HNK.out]; exact HO2.out, HB1.out⟩
        case measure => simp [intOf]; omega
      · rw [decide_eq_false h0] at EP hcn
        by_cases h1 : P = nsS
        · rw [decide_eq_true h1] at EN hcn
          have HC := hid (show cntB y = false from hcn)
          have HS2 := hid (attrsN_skip HK.out.2 HC.out)
          have HS3 := hid (pairsN_skip (ts := ts) (i := i) (l := at0.take j) HC.out)
          rw [← HTS.out] at HS2 HS3
          clear hcn h0 h1 he
          go_wp2_with fail
          go_roundw
          case rel => exact ⟨j + 1, a8, c8, ps, by go_num, by omega, by rw [HNK.out], by rw [HNK.out]; omega, ⟨by rw [HS3.out]; exact HK.out.1, HS2.out.1⟩, by rw [HNK.out]; exact HO2.out, HB1.out⟩
          case measure => simp [intOf]; omega
        · rw [decide_eq_false h1] at EN hcn
          have HC := hid (show cntB y = true from hcn)
          clear hcn h0 h1
          go_wp2_with fail
          refine (CM.out _ HB1.out).mono ?_
          rintro e w2 ⟨rfl, hb2⟩
          have HB2 := hid (bb HB1.out hb2)
          have HO3 := hid (ownsRow_below HO2.out hb2)
          clear hb2 CM HO2 HB1 he
          have HBY := hid (HB2.out.alloc HB2.out.size (.cells #[.string M, .string L] 108))
          have HO4 := hid (HO3.out.alloc (.cells #[.string M, .string L] 108))
          have HBOX := hid (box_two w2 (.string M) (.string L) 108)
          cases I with
          | false =>
            have HV := hid (HMI.out HC.out rfl)
            go_wp2_with fail
            go_ret
            exact ⟨by rw [HV.out]; rfl, HBY.out⟩
          | true =>
            have CC := hid (cContainsP a8 c8 ps M L (w2.alloc (.cells #[.string M, .string L] 108)) (PrRow.of (by rw [HNK.out]; exact HO4.out)) (by rw [HNK.out]; omega))
            rw [HNK.out] at CC
            obtain ⟨H, hH⟩ : ∃ H, hasP ps (M, L) = H := ⟨_, rfl⟩
            have HH := hid hH
            rw [hH] at CC
            clear hH
            go_wp2_with fail
            refine CC.out.mono ?_
            rintro e w3 ⟨rfl, hb3⟩
            have HB3 := hid (bb HBY.out hb3)
            have HO5 := hid (ownsRow_below HO4.out hb3)
            have d1 := (hb3.cell (p := ⟨w2.heap.size, 0, none⟩) HBOX.out.2.2).trans HBOX.out.1
            have d2 := (hb3.cell (p := ⟨w2.heap.size, 1, none⟩) HBOX.out.2.2).trans HBOX.out.2.1
            clear hb3 CC HO4 HBY HBOX HB2 HO3
            cases H with
            | true =>
              have HV := hid (HMK.out HC.out (by
                have h := HH.out
                unfold hasP at h
                simpa using h))
              go_wp2_with fail
              go_ret
              exact ⟨by rw [HV.out]; rfl, HB3.out⟩
            | false =>
              have HS2 := hid (HMO.out HC.out (by first | rfl | trivial) (by
                have h := HH.out
                unfold hasP at h
                simpa using h))
              have HS3 := hid (pairsN_more (ts := ts) (i := i) (l := at0.take j) HC.out)
              rw [← HTS.out] at HS2 HS3
              rw [HPN.out, ← HK.out.1] at HS3
              have hsz := HB3.out.size
              go_wp2_with (at_builtin; refine wpList_append_own _ rfl _ _ 106 rfl w.heap.size 108 i0 (.agg #[.string ⟨#[]⟩, .string ⟨#[]⟩]) 2 32 Tryz.underlying106 HI.out.1 HI.out.2.1 HI.out.2.2.1 HI.out.2.2.2 rfl (by decide) _ _ _ rfl (HO5.out.alloc _) ⟨w3.heap.size, 0, none⟩ 1 1 [.string M, .string L] rfl rfl (two_cell _ _ _ _) (two_str _ _) (by unfold maxLen; omega) (by omega) (by simp; omega) ?_)
              intro v' w7 hown' hgrow _
              have HB7 := hid ((HB3.out.alloc hsz _).grown hgrow (by simp; omega) (fun k hk => (HO5.out.lt k hk).1))
              rw [← HNK.out] at hown'
              obtain ⟨a9, c9, rfl, ho9⟩ := prs_more (q := (M, L)) hown'
              have HO9 := hid ho9
              clear hown' hgrow ho9
              have HL9 := hid (show (ps ++ [(M, L)]).length ≤ j + 1 by rw [List.length_append, HNK.out]; show _ + 1 ≤ _; omega)
              generalize ps ++ [(M, L)] = ps9 at *
              go_wp2_with fail
              go_roundw
              case rel => exact ⟨j + 1, a9, c9, ps9, by go_num, by omega, rfl, HL9.out, ⟨HS3.out.symm, HS2.out⟩, HO9.out, HB7.out⟩
              case measure => simp [intOf]; omega
    · have HV := hid (HBT.out (by
        have h := HK.out.2
        rw [List.take_of_length_le (by rw [HN.out]; omega)] at h
        exact h))
      have hjn : j = n := by omega
      subst hjn
      generalize ps.length = nk at *
      go_wp2_with fail
      go_ret
      exact ⟨by rw [HV.out]; rfl, HB.out⟩

theorem box_four (w : World) (x y z u : Value) (T : TypeId) : (w.alloc (.cells #[x, y, z, u] T)).cell? ⟨w.heap.size, 0, none⟩ = some x ∧ (w.alloc (.cells #[x, y, z, u] T)).cell? ⟨w.heap.size, 1, none⟩ = some y
    ∧ (w.alloc (.cells #[x, y, z, u] T)).cell? ⟨w.heap.size, 2, none⟩ = some z ∧ (w.alloc (.cells #[x, y, z, u] T)).cell? ⟨w.heap.size, 3, none⟩ = some u ∧ w.heap.size < (w.alloc (.cells #[x, y, z, u] T)).heap.size := by
  refine ⟨?_, ?_, ?_, ?_, by simp⟩
  all_goals (rw [Lib.cell_of_heap (heap_alloc_new w _)]; rfl)

set_option maxRecDepth 4000 in
set_option maxHeartbeats 4000000 in
theorem cElementNames (t : Tk) (aa : Option Addr) (ca : Nat) (F : FuncId) (C : Array Value) (ts : List Tk) (i : Nat) (w : World) (B : Bool) (hB : B = true ↔ ((meanF ts i (preS t.name)).isSome = true ∧ ¬ preS t.name = nsS ∧ AttrsN ts i t.attrs)) (hF : Asks F C w (outAts ts i)) (hr : (outAts ts i).all rightB = true) (hR : AtRow w aa t.attrs) (hz : TkSz 1048576 t) :
    Calls Tryz.prog 36 #[.agg #[.int .i64 t.kind, .string t.name, .slice aa t.attrs.length ca, .string t.text], .func (.func F) #[] C] w fun e w' => e = .returned (.bool B) ∧ Below w.heap.size w w' := by
  have HBA := hid ((Below.refl w.heap.size w).alloc (Nat.le_refl _) (.cells #[.int .i64 t.kind, .string t.name, .slice aa t.attrs.length ca, .string t.text] 41))
  have HBOX := hid (box_four w (.int .i64 t.kind) (.string t.name) (.slice aa t.attrs.length ca) (.string t.text) 41)
  have CP := hid (fun wx => cPartsI t.name wx hz.1)
  have he := hF.1 (preS t.name)
  have CM := hid (fun wx (hb : Below w.heap.size w wx) => hF.2 (preS t.name) wx hb (preS_sz hz.1))
  rw [← meanF_look hr] at CM
  obtain ⟨D, hD⟩ : ∃ D : Bool, D = true ↔ AttrsN ts i t.attrs := by
    by_cases h : AttrsN ts i t.attrs
    · exact ⟨true, ⟨fun _ => h, fun _ => rfl⟩⟩
    · exact ⟨false, ⟨fun h' => (by cases h'), fun h' => absurd h' h⟩⟩
  have CA := hid (fun wx (hb : Below w.heap.size w wx) => cAttrNames aa ca t.attrs F C ts i wx D hD (hF.below hb) hr (hR.below hb) hz.2.2.1 hz.2.1)
  have EN := ns_beq (preS t.name)
  rw [← hD] at hB
  obtain ⟨M, hM⟩ : ∃ M, (meanF ts i (preS t.name)).getD ⟨#[]⟩ = M := ⟨_, rfl⟩
  obtain ⟨I, hI⟩ : ∃ I, (meanF ts i (preS t.name)).isSome = I := ⟨_, rfl⟩
  rw [hM, hI] at CM
  rw [hI] at hB
  clear hM hI hD hF hr hR hz
  generalize preS t.name = P at *
  generalize locS t.name = L at *
  generalize t.name = nm at *
  generalize t.kind = K at *
  generalize t.text = T at *
  generalize t.attrs.length = nA at *
  have HBB := hid hB
  clear hB
  go_enter Tryz.func36, Tryz.ntmps36
  go_wp2_with fail
  refine (CP.out _).mono ?_
  rintro e w1 ⟨rfl, hb1⟩
  have HB1 := hid (bb HBA.out hb1)
  have x2 := hid ((hb1.cell (p := ⟨w.heap.size, 2, none⟩) HBOX.out.2.2.2.2).trans HBOX.out.2.2.1)
  have x5 := hid (Nat.lt_of_lt_of_le HBOX.out.2.2.2.2 hb1.size)
  clear hb1 CP HBOX HBA
  go_wp2_with fail
  refine (CM.out _ HB1.out).mono ?_
  rintro e w2 ⟨rfl, hb2⟩
  have HB2 := hid (bb HB1.out hb2)
  have y2 := (hb2.cell (p := ⟨w.heap.size, 2, none⟩) x5.out).trans x2.out
  clear hb2 CM HB1 x2 x5 he
  cases I with
  | false =>
    have HV := hid (show B = false by
      cases B with
      | false => rfl
      | true => exact absurd (HBB.out.1 rfl).1 (by decide))
    go_wp2_with fail
    go_ret
    exact ⟨by rw [HV.out]; rfl, HB2.out⟩
  | true =>
    by_cases hns : P = nsS
    · rw [decide_eq_true hns] at EN
      have HV := hid (show B = false by
        cases B with
        | false => rfl
        | true => exact absurd hns (HBB.out.1 rfl).2.1)
      clear hns
      go_wp2_with fail
      go_ret
      exact ⟨by rw [HV.out]; rfl, HB2.out⟩
    · rw [decide_eq_false hns] at EN
      have HV := hid (show B = D by
        rw [Bool.eq_iff_iff, HBB.out]
        exact ⟨fun h => h.2.2, fun h => ⟨rfl, hns, h⟩⟩)
      clear hns HBB
      go_wp2_with fail
      refine (CA.out _ HB2.out).mono ?_
      rintro e w3 ⟨rfl, hb3⟩
      have HB3 := hid (bb HB2.out hb3)
      clear hb3 CA
      go_wp2_with fail
      go_ret
      exact ⟨by rw [HV.out]; rfl, HB3.out⟩

/-- Without right declarations nothing has a meaning. -/
theorem meanF_not {ts : List Tk} {i : Nat} (h : (outAts ts i).all rightB = false) (p : ByteArray) : meanF ts i p = none := by
  rw [meanF_out]
  exact meanL_not p h

set_option maxRecDepth 4000 in
set_option maxHeartbeats 8000000 in
theorem cNamesOkI (a : Option Addr) (cap : Nat) (ts : List Tk) (w : World) (hR : TkRow w a ts) (hn : ts.length ≤ 1048576) (hz : TksSz 1048576 ts) :
    Calls Tryz.prog 18 #[.slice a ts.length cap] w fun e w' => e = .returned (.bool (namesB ts)) ∧ Below w.heap.size w w' := by
  obtain ⟨V, hV⟩ : ∃ V, namesB ts = V := ⟨_, rfl⟩
  have HF : Hid (¬ NamesP ts → V = false) := fun h => by rw [← hV]; exact namesB_f h
  have HT : Hid (NamesP ts → V = true) := fun h => by rw [← hV]; exact namesB_t h
  rw [hV]
  clear hV
  have C := hid (cTreeOkI a cap ts w hR hn hz)
  by_cases hT : TreeP ts
  case neg =>
    rw [treeB_f hT] at C
    have HV := hid (HF.out (fun h => hT h.1))
    clear hR hz hT HF HT
    generalize ts.length = n at *
    go_enter Tryz.func18, Tryz.ntmps18
    go_wp2_with fail
    refine C.out.mono ?_
    rintro e w1 ⟨rfl, hb1⟩
    have HB1 := hid hb1
    clear hb1 C
    go_wp2_with fail
    go_ret
    exact ⟨by rw [HV.out]; rfl, HB1.out⟩
  rw [treeB_t hT] at C
  have HR := hid hR
  have HZ := hid hz
  have HTP := hid hT
  have hn50 : ts.length ≤ 50 := hT.2.1
  have CL := hid (fun (i : Nat) (h : i < ts.length) wx (hb : Below w.heap.size w wx) => cLookupAt a cap ts i wx (hR.below hb) hT h hn hz)
  obtain ⟨b, o, _, _, ea, -⟩ := hR 0 hT.1
  subst ea
  obtain ⟨n, hnn⟩ : ∃ n, ts.length = n := ⟨_, rfl⟩
  have HN := hid hnn
  rw [hnn] at hn hn50 C CL ⊢
  clear hnn hR hz hT
  go_enter Tryz.func18, Tryz.ntmps18
  go_wp2_with fail
  refine C.out.mono ?_
  rintro e w1 ⟨rfl, hb1⟩
  have HB1 := hid hb1
  clear hb1 C
  go_wp2_with fail
  go_loopw [12] (fun v3 wr => ∃ i : Nat, v3 = .int .i64 (i : Int) ∧ i ≤ n ∧ Hid (∀ j t, j < i → ts[j]? = some t → ElemN ts j t) ∧ Hid (Below w.heap.size w wr)) (fun v3 _ => n - (intOf v3).toNat)
  case atStart => exact ⟨0, rfl, Nat.zero_le _, fun j t h => by omega, HB1.out⟩
  case round =>
    clear HB1
    obtain ⟨i, rfl, hi, HA, HB⟩ := hrel
    by_cases hlt : i < n
    · have his : i < ts.length := by rw [HN.out]; exact hlt
      have hin : (i : Int) < (n : Int) := by omega
      have hti : ts[i]? = some ts[i] := List.getElem?_eq_getElem his
      have HZT := hid (HZ.out _ (List.getElem_mem his))
      have HROW := hid (fun wx (hb : Below w.heap.size w wx) => (HR.out.below hb) i his)
      obtain ⟨t, ht⟩ : ∃ t, ts[i] = t := ⟨_, rfl⟩
      rw [ht] at hti HZT HROW
      have HTI := hid hti
      have HBAD := hid (show ¬ ElemN ts i t → V = false from fun h => HF.out (fun hp => h (hp.2 i t HTI.out)))
      have HNX := hid (show ElemN ts i t → ∀ j t', j < i + 1 → ts[j]? = some t' → ElemN ts j t' from fun h j t' hj he => by
        rcases Nat.lt_or_eq_of_le (Nat.le_of_lt_succ hj) with h' | h'
        · exact HA.out j t' h' he
        · subst h'
          rw [HTI.out] at he
          cases he
          exact h)
      clear hti ht HA his
      have CL1 := hid (CL.out i hlt)
      have CI := hid (fun wx aa nA ca => cIsText t.kind t.name aa nA ca t.text wx HZT.out.1)
      obtain ⟨b', o', aa, ca, e', hb, q0, q1, q2, q3, hA⟩ := HROW.out _ HB.out
      obtain ⟨rfl, rfl⟩ : b = b' ∧ o = o' := by cases e'; exact ⟨rfl, rfl⟩
      have HAT := hid hA
      clear e' hA
      have HBX := hid (HB.out.alloc HB.out.size (.cells #[.int .i64 t.kind, .string t.name, .slice aa t.attrs.length ca, .string t.text] 41))
      have HBL := hid ((Below.refl wr.heap.size wr).alloc (Nat.le_refl _) (.cells #[.int .i64 t.kind, .string t.name, .slice aa t.attrs.length ca, .string t.text] 41))
      have HBOX := hid (box_four wr (.int .i64 t.kind) (.string t.name) (.slice aa t.attrs.length ca) (.string t.text) 41)
      obtain ⟨B, hBB⟩ : ∃ B : Bool, B = true ↔ ((meanF ts i (preS t.name)).isSome = true ∧ ¬ preS t.name = nsS ∧ AttrsN ts i t.attrs) := by
        by_cases h : ((meanF ts i (preS t.name)).isSome = true ∧ ¬ preS t.name = nsS ∧ AttrsN ts i t.attrs)
        · exact ⟨true, ⟨fun _ => h, fun _ => rfl⟩⟩
        · exact ⟨false, ⟨fun h' => (by cases h'), fun h' => absurd h' h⟩⟩
      have CE := hid (fun F C wx (hw : Below wr.heap.size wr wx) hF hr => cElementNames t aa ca F C ts i wx B hBB hF hr (HAT.out.below hw) HZT.out)
      have HB0 := hid (show ¬ t.name.size = 0 → (outAts ts i).all rightB = false → V = false from fun h0 h => HBAD.out (fun he => by
        rcases he with h' | ⟨h', _⟩
        · exact h0 h'
        · rw [meanF_not h] at h'; cases h'))
      have HBF := hid (show ¬ t.name.size = 0 → B = false → V = false from fun h0 h => HBAD.out (fun he => by
        rcases he with h' | h'
        · exact h0 h'
        · rw [hBB.2 h'] at h; cases h))
      have HBT := hid (show B = true → ElemN ts i t from fun h => .inr (hBB.1 h))
      have HTX := hid (show t.name.size = 0 → ElemN ts i t from fun h => .inl h)
      clear hBB HAT
      obtain ⟨A0, hA0⟩ : ∃ A0, (outAts ts i).all rightB = A0 := ⟨_, rfl⟩
      rw [hA0] at CL1 HB0
      have HA0 := hid hA0
      clear hA0
      obtain ⟨nA, hnA⟩ : ∃ nA, t.attrs.length = nA := ⟨_, rfl⟩
      rw [hnA] at q2 HBX HBL HBOX CE
      clear hnA
      obtain ⟨D, hD⟩ : ∃ D : Bool, decide (t.name.size = 0) = D := ⟨_, rfl⟩
      have HD := hid hD
      rw [hD] at CI
      clear hD
      obtain ⟨nm, hnm⟩ : ∃ nm, t.name = nm := ⟨_, rfl⟩
      rw [hnm] at q1 HBX HBL HBOX CE CI HB0 HBF HTX HD
      obtain ⟨K, hK⟩ : ∃ K, t.kind = K := ⟨_, rfl⟩
      rw [hK] at q0 HBX HBL HBOX CE CI
      obtain ⟨X, hX⟩ : ∃ X, t.text = X := ⟨_, rfl⟩
      rw [hX] at q3 HBX HBL HBOX CE CI
      clear hnm hK hX
      go_wp2_with fail
      refine (CI.out _ _ _ _).mono ?_
      rintro e w2 ⟨rfl, hb2⟩
      have HB2 := hid (bb HBX.out hb2)
      have HL2 := hid (bb HBL.out hb2)
      have k0 := hid ((hb2.cell (p := ⟨wr.heap.size, 0, none⟩) HBOX.out.2.2.2.2).trans HBOX.out.1)
      have k1 := hid ((hb2.cell (p := ⟨wr.heap.size, 1, none⟩) HBOX.out.2.2.2.2).trans HBOX.out.2.1)
      have k2 := hid ((hb2.cell (p := ⟨wr.heap.size, 2, none⟩) HBOX.out.2.2.2.2).trans HBOX.out.2.2.1)
      have k3 := hid ((hb2.cell (p := ⟨wr.heap.size, 3, none⟩) HBOX.out.2.2.2.2).trans HBOX.out.2.2.2.1)
      have k4 := hid (Nat.lt_of_lt_of_le HBOX.out.2.2.2.2 hb2.size)
      clear hb2 CI HBOX HBX HBL q0 q1 q2 q3 hb
      cases D with
      | true =>
        have HN2 := hid (HNX.out (HTX.out (of_decide_eq_true HD.out)))
        go_wp2_with fail
        go_roundw
        case rel => exact ⟨i + 1, by go_num, by omega, HN2.out, HB2.out⟩
        case measure => simp [intOf]; omega
      | false =>
        have H0 := hid (of_decide_eq_false HD.out)
        go_wp2_with fail
        refine (CL1.out _ HB2.out).mono ?_
        rintro e w3 ⟨v, rfl, hv, hb3⟩
        have HB3 := hid (bb HB2.out hb3)
        have HL3 := hid (bb HL2.out hb3)
        have HVV := hid hv
        have m0 := (hb3.cell (p := ⟨wr.heap.size, 0, none⟩) k4.out).trans k0.out
        have m1 := (hb3.cell (p := ⟨wr.heap.size, 1, none⟩) k4.out).trans k1.out
        have m2 := (hb3.cell (p := ⟨wr.heap.size, 2, none⟩) k4.out).trans k2.out
        have m3 := (hb3.cell (p := ⟨wr.heap.size, 3, none⟩) k4.out).trans k3.out
        clear hb3 hv CL1 k0 k1 k2 k3 k4 HB2 HL2 HB
        cases A0 with
        | false =>
          have HV := hid (HB0.out H0.out rfl)
          go_wp2_with fail
          go_ret
          exact ⟨by rw [HV.out]; rfl, HB3.out⟩
        | true =>
          obtain ⟨F, C, rfl, hF⟩ := HVV.out rfl
          have CE1 := hid (CE.out F C _ HL3.out hF HA0.out)
          clear hF HVV CE
          go_wp2_with fail
          refine CE1.out.mono ?_
          rintro e w4 ⟨rfl, hb4⟩
          have HB4 := hid (bb HB3.out hb4)
          clear hb4 CE1 m0 m1 m2 m3
          cases B with
          | false =>
            have HV := hid (HBF.out H0.out rfl)
            go_wp2_with fail
            go_ret
            exact ⟨by rw [HV.out]; rfl, HB4.out⟩
          | true =>
            have HN2 := hid (HNX.out (HBT.out rfl))
            go_wp2_with fail
            go_roundw
            case rel => exact ⟨i + 1, by go_num, by omega, HN2.out, HB4.out⟩
            case measure => simp [intOf]; omega
    · have HV := hid (HT.out ⟨HTP.out, fun j t he => HA.out j t (by
        have h1 : j < ts.length := by
          rcases Nat.lt_or_ge j ts.length with h' | h'
          · exact h'
          · rw [List.getElem?_eq_none h'] at he; cases he
        have := HN.out
        omega) he⟩)
      have hie : i = n := by omega
      subst hie
      go_wp2_with fail
      go_ret
      exact ⟨by rw [HV.out]; rfl, HB.out⟩

end Go.Proofs.YtnbpcgeojmikoaaGreat

namespace Go.Proofs.YtnbpcgeojmikoaaGreat
open Go.RowKit
set_option linter.unusedVariables false
set_option linter.unusedSimpArgs false

theorem wordsX_form (ts : List Tk) (x : Int) : ∃ r s g, wordsX ts x = .agg #[.string r, .string s, .string g] := by
  unfold wordsX wordsV
  split
  · exact ⟨_, _, _, rfl⟩
  · exact ⟨_, _, _, rfl⟩

theorem kids_text {ts : List Tk} (hT : TreeP ts) {k : Nat} (hn : (nameI ts k).size = 0) : kidsN ts k = [] := by
  rw [List.eq_nil_iff_forall_not_mem]
  intro i hi
  have h1 := kidsN_lt hi
  unfold kidsN kidsTo at hi
  have h2 := (List.mem_filter.1 hi).2
  simp only [Bool.and_eq_true, decide_eq_true_eq] at h2
  rcases (hT.2.2.2.2 i h1).2.1 with h' | ⟨q, hm, e, he⟩
  · omega
  · have : q = k := by omega
    subst this
    obtain ⟨hq, hne⟩ := he
    apply hne
    rw [nameI_at hq] at hn
    exact hn

theorem seals_is {ts : List Tk} (hN : NamesP ts) (x : Int) : sealsI ts x = (kidsI ts x).filter (sealN ts) := by
  unfold sealsI
  rw [namesB_t hN, Bool.true_and]
  cases he : elemB ts x with
  | true =>
    obtain ⟨_, k, rfl, hk⟩ := elemB_t he
    have hh : hasB ts (k : Int) = true := by
      unfold elemB at he
      rw [Bool.and_eq_true] at he
      exact he.1
    unfold kidsI
    rw [if_pos rfl, if_pos hh]
    rfl
  | false =>
    rw [if_neg (by decide)]
    unfold kidsI
    split
    · rename_i hh
      obtain ⟨_, k, rfl, hk⟩ := hasB_t hh
      unfold elemB at he
      rw [hh] at he
      have : (nameI ts k).size = 0 := by simpa using he
      rw [show ((k : Int)).toNat = k from rfl, kids_text hN.1 this]
      rfl
    · rfl

theorem kidsI_lt {ts : List Tk} {x : Int} {i : Nat} (h : i ∈ kidsI ts x) : i < ts.length := by
  unfold kidsI at h
  split at h
  · exact kidsN_lt h
  · exact absurd h List.not_mem_nil

theorem kidsI_lenJ (ts : List Tk) (x : Int) : (kidsI ts x).length ≤ ts.length := by
  unfold kidsI
  split
  · unfold kidsN kidsTo
    exact Nat.le_trans (List.length_filter_le _ _) (by rw [List.length_range]; exact Nat.le_refl _)
  · exact Nat.zero_le _

theorem sealX_at {ts : List Tk} {j : Nat} (h : j < ts.length) : sealX ts (j : Int) = sealN ts j := by
  unfold sealX
  rw [decide_eq_true ⟨by omega, by omega⟩]
  rfl

set_option maxRecDepth 8000 in
set_option maxHeartbeats 8000000 in
theorem cSealsOfI (a : Option Addr) (cap : Nat) (ts : List Tk) (x : Int) (w : World) (hR : TkRow w a ts) (hn : ts.length ≤ 1048576) (hz : TksSz 1048576 ts) :
    Calls Tryz.prog 7 #[.slice a ts.length cap, .int .i64 x] w fun e w' => ∃ v, e = .returned v ∧ w'.ownsRow w.heap.size 2 1 v (sealsI ts x).length (intC (sealsI ts x)) ∧ Below w.heap.size w w' := by
  have CN := hid (cNamesOkI a cap ts w hR hn hz)
  by_cases hP : NamesP ts
  case neg =>
    have HE := hid (show sealsI ts x = [] by unfold sealsI; rw [namesB_f hP]; rfl)
    rw [HE.out]
    rw [namesB_f hP] at CN
    clear hR hz hP HE
    generalize ts.length = n at *
    go_enter Tryz.func7, Tryz.ntmps7
    go_wp2_with fail
    refine CN.out.mono ?_
    rintro e w1 ⟨rfl, hb1⟩
    have HB1 := hid hb1
    clear hb1 CN
    go_wp2_with fail
    go_ret
    exact ⟨_, rfl, World.ownsRow_nil _ _ _ _, HB1.out⟩
  case pos =>
    rw [namesB_t hP] at CN
    obtain ⟨i0, hi, hz0, hz1, hz2⟩ := info_parts info64
    have HI := hid (And.intro hi (And.intro hz0 (And.intro hz1 hz2)))
    clear hi hz0 hz1 hz2
    have CK := hid (fun wx (hb : Below w.heap.size w wx) => cKidsOfI a cap ts x wx (hR.below hb) hn hz)
    have CS := hid (fun (j : Nat) (hj : j < ts.length) wx (hb : Below w.heap.size w wx) => (show ∃ r s g, (Calls Tryz.prog 20 #[.slice a ts.length cap, .int .i64 (j : Int)] wx fun e w' => e = .returned (.tuple #[.agg #[.string r, .string s, .string g], .bool (sealN ts j)]) ∧ Below wx.heap.size wx w') by
      obtain ⟨r, s, g, e⟩ := wordsX_form ts (j : Int)
      have h := cSealAt a cap ts (j : Int) wx (hR.below hb) hn hz hP.1
      rw [e, sealX_at hj] at h
      exact ⟨r, s, g, h⟩))
    have HL := hid (fun (q : Nat) (hq : q < (kidsI ts x).length) => kidsI_lt (List.getElem_mem hq))
    have hlk := kidsI_lenJ ts x
    have HE := hid (show sealsI ts x = sealsTo ts (kidsI ts x) (kidsI ts x).length by rw [seals_is hP]; unfold sealsTo; rw [List.take_length])
    rw [HE.out]
    clear HE hR hz hP
    generalize kidsI ts x = L at *
    generalize ts.length = n at *
    obtain ⟨m, hm⟩ : ∃ m, L.length = m := ⟨_, rfl⟩
    have HM := hid hm
    rw [hm] at CK hlk ⊢
    clear hm
    go_enter Tryz.func7, Tryz.ntmps7
    go_wp2_with fail
    refine CN.out.mono ?_
    rintro e w0 ⟨rfl, hb0⟩
    have HB0 := hid hb0
    clear hb0 CN
    go_wp2_with fail
    refine (CK.out _ HB0.out).mono ?_
    rintro e w1 ⟨v6, rfl, ho6, hb1⟩
    have HB1 := hid (bb HB0.out hb1)
    rw [← HM.out] at ho6
    obtain ⟨a6, c6, rfl, hr6⟩ := own64 ho6
    have HR6 := hid hr6
    have HF1 := hid (show ∀ x y, (Value.slice a6 L.length c6).ownBlock = some x → (Value.slice none 0 0).ownBlock = some y → ¬ y = x from fun x y hx hy => by cases hy)
    rw [HM.out] at HF1 ⊢
    clear hb1 ho6 hr6 CK HB0
    go_wp2_with fail
    go_loopw [5, 17] (fun v x wr => ∃ q : Nat, x = .int .i64 (q : Int) ∧ q ≤ m ∧ Hid (wr.ownsRow w.heap.size 2 1 v (sealsTo ts L q).length (intC (sealsTo ts L q))) ∧ Hid (IntRow wr a6 L) ∧ Hid (∀ x y, (Value.slice a6 m c6).ownBlock = some x → v.ownBlock = some y → ¬ y = x) ∧ Hid (Below w.heap.size w wr)) (fun _ x _ => m - (intOf x).toNat)
    case atStart => exact ⟨0, rfl, Nat.zero_le _, World.ownsRow_nil _ _ _ _, HR6.out, HF1.out, HB1.out⟩
    case round =>
      clear HB1 HR6 HF1
      obtain ⟨q, rfl, hq, HO, HR, HF, HB⟩ := hrel
      by_cases hlt : q < m
      · have hql : q < L.length := by rw [HM.out]; exact hlt
        have hqm : (q : Int) < (m : Int) := by omega
        obtain ⟨b, o, rfl, hb, c1⟩ := HR.out q hql
        obtain ⟨r, s, g, hCS⟩ := CS.out L[q] (HL.out q hql) wr HB.out
        have CS1 := hid hCS
        have HX := hid (sealsTo_next (ts := ts) hql)
        obtain ⟨j, hj⟩ : ∃ j, L[q] = j := ⟨_, rfl⟩
        rw [hj] at c1 CS1 HX
        clear hj hCS
        generalize sealN ts j = K at *
        go_wp2_with fail
        refine CS1.out.mono ?_
        rintro e1 w2' ⟨rfl, hb2⟩
        have HBX := hid ((Below.refl w2'.heap.size w2').alloc (Nat.le_refl _) (.cells #[.string r, .string s, .string g] 44))
        obtain ⟨w2, hw2⟩ : ∃ w2, w2'.alloc (.cells #[.string r, .string s, .string g] 44) = w2 := ⟨_, rfl⟩
        have hb3 : Below wr.heap.size wr w2 := by rw [← hw2]; exact bb hb2 HBX.out
        have HB2 := hid (bb HB.out hb3)
        have HO2 := hid (ownsRow_below HO.out hb3)
        have HR2 := hid (HR.out.below hb3)
        have c2 := (hb3.cell (p := ⟨b, o + q, none⟩) hb).trans c1
        clear hb2 hb3 HO HB CS1 c1 HBX
        cases K with
        | false =>
          go_wp2_with fail
          go_roundw
          case rel => exact ⟨q + 1, by go_num, by omega, by rw [show sealsTo ts L (q + 1) = sealsTo ts L q by rw [HX.out]; exact List.append_nil _]; exact HO2.out, HR2.out, HF.out, HB2.out⟩
          case measure => simp [intOf]; omega
        | true =>
          have hlen := sealsTo_len ts L q
          obtain ⟨hi, hz0, hz1, hz2⟩ := HI.out
          have hsz := HB2.out.size
          have HOA := hid (HO2.out.alloc (.cells #[.int .i64 (j : Int)] 2))
          have hlen2 : (intC (sealsTo ts L q)).length ≤ q := by rw [intC_len]; exact hlen
          go_wp2_with (at_builtin; refine wpList_append_own_at _ rfl _ _ 24 rfl w.heap.size 2 i0 (.int .i64 0) 1 8 Tryz.underlying24 hi hz0 hz1 hz2 rfl (by decide) _ _ _ rfl HOA.out ⟨w2.heap.size, 0, none⟩ 1 1 [.int .i64 (j : Int)] rfl rfl ?c1 ?c2 ?c3 ?c4 ?c5 ?_)
          case c1 => exact one_cell64 _ _
          case c2 => exact one_one64 _
          case c3 => unfold maxLen; omega
          case c4 => omega
          case c5 => simp; omega
          intro v' w3 hown' hgrow _ hat
          have HO3 := hid (show w3.ownsRow w.heap.size 2 1 v' (sealsTo ts L (q + 1)).length (intC (sealsTo ts L (q + 1))) by rw [HX.out, intC_app, List.length_append]; exact hown')
          have HB3 := hid ((HB2.out.alloc hsz (.cells #[.int .i64 (j : Int)] 2)).grown hgrow (by simp; omega) (fun g hg => (HOA.out.lt g hg).1))
          have HR3 := hid (show IntRow w3 (some ⟨b, o, none⟩) L from fun i h => by
            obtain ⟨b', o', e', hlt', c'⟩ := HR2.out i h
            cases e'
            refine ⟨b, o, rfl, Nat.lt_of_lt_of_le hlt' (Nat.le_trans (by simp) hgrow.size), ?_⟩
            have c7 := ((Below.refl w2.heap.size w2).alloc (Nat.le_refl _) (.cells #[.int .i64 (j : Int)] 2)).cell (p := ⟨b, o + i, none⟩) hlt'
            rw [World.cell?_of_block (hgrow.block b (by simp; omega) (fun e => HF.out b b rfl e.symm rfl)), c7]
            exact c')
          have HF3 := hid (show ∀ x y, (Value.slice (some ⟨b, o, none⟩) m c6).ownBlock = some x → v'.ownBlock = some y → ¬ y = x from fun x y hx hy => by
            rcases hat with h | h
            · exact HF.out x y hx (h.symm.trans hy)
            · rw [h] at hy
              cases hx
              cases hy
              have h9 := (HR2.out q hql)
              obtain ⟨b', o', e', hlt', _⟩ := h9
              cases e'
              simp
              omega)
          clear hown' hgrow hat
          go_wp2_with fail
          go_roundw
          case rel => exact ⟨q + 1, by go_num, by omega, HO3.out, HR3.out, HF3.out, HB3.out⟩
          case measure => simp [intOf]; omega
      · have hqe : q = m := by omega
        subst hqe
        go_wp2_with fail
        go_ret
        exact ⟨_, rfl, HO.out, HB.out⟩

end Go.Proofs.YtnbpcgeojmikoaaGreat
