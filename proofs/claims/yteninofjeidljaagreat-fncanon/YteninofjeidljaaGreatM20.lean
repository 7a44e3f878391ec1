/- The attrs that declare nothing, in order: contracts of slices.SortFunc and otherAttrs. The library contracts that the proofs lean on, laid at this program: a field a fact of the program, each contract one application. The prefixes that are needed: contract of neededPrefixes. The declarations that are new: contracts of declaration and newDeclarations. -/
import Derived.Test.YteninofjeidljaaGreatM19
import Derived.Test.YteninofjeidljaaGreatProg
import Derived.Test.YteninofjeidljaaGreatM16
import Derived.Test.YteninofjeidljaaGreatM5
import Derived.Shelf.Sort.Plain
import Derived.Shelf.Slices.CompactS
namespace Go.Proofs.YteninofjeidljaaGreat

open Go.RowKit

set_option linter.unusedVariables false

set_option linter.unusedSimpArgs false

set_option maxRecDepth 8000 in
set_option maxHeartbeats 4000000 in
theorem cSortA (G c cap : Nat) (l : List At) (F : FuncId) (C : Array Value) (ls : List At) (b : Nat) (w0 w : World) (ho : OrdB (fun x y => decide (cmpA ls x y < 0))) (hA : Asks F C w0 ls) (hb : b < w0.heap.size) (hc : w0.cell? ⟨b, 0, none⟩ = some (.func (.func F) #[] C))
    (hB : Below w0.heap.size w0 w) (hG : w0.heap.size ≤ G) (hH : Holds2 w G c l) (hz : AtSz 1048576 l) (hn : l.length ≤ 12) :
    Calls Tryz.prog 155 #[.slice (some ⟨G, 0, none⟩) l.length cap, .func (.func 156) #[] #[.pointer (some ⟨b, 0, none⟩)]] w fun e w' =>
      e = .returned (.tuple #[]) ∧ Holds2 w' G c (sortG (fun x y => decide (cmpA ls x y < 0)) l) ∧ Below w0.heap.size w0 w' := by
  have CI := hid (fun lim => cPdqA G c cap l lim F C ls b w0 w ho hA hb hc hB hG hH hz hn)
  have CL := hid (Tryz.bits_Len (l.length : Int) w (by omega) (by omega))
  generalize sortG (fun x y => decide (cmpA ls x y < 0)) l = S at *
  clear ho hA hb hc hB hG hH hz
  generalize l.length = n at *
  have hw : IntKind.u64.wrap (n : Int) = (n : Int) := by
    have : (n : Int) % 18446744073709551616 = n := by omega
    simpa [IntKind.wrap, IntKind.bits, IntKind.signed] using this
  go_enter Tryz.func155, Tryz.ntmps155
  go_wp2_with fail
  refine CL.out.mono ?_
  rintro e w1 ⟨rfl, hw1⟩
  subst hw1
  go_wp2_with fail
  refine (CI.out _).mono ?_
  rintro e w2 ⟨rfl, h1, h2⟩
  have H1 := hid (And.intro h1 h2)
  clear h1 h2
  go_wp2_with fail
  go_end0
  exact ⟨rfl, H1.out.1, H1.out.2⟩

set_option maxHeartbeats 2000000 in
theorem cInsA0 (f : Value) (w : World) :
    Calls Tryz.prog 186 #[.slice none 0 0, .int .i64 0, .int .i64 0, f] w fun e w' => e = .returned (.tuple #[]) ∧ w' = w := by
  go_enter Tryz.func186, Tryz.ntmps186
  go_wp2_with fail
  refine wp_loop_rounds 1 ?_
  rw [rounds_succ]
  go_wp2_with fail
  go_end0
  exact ⟨rfl, rfl⟩

set_option maxRecDepth 8000 in
set_option maxHeartbeats 4000000 in
theorem cPdqA0 (lim : Int) (f : Value) (w : World) :
    Calls Tryz.prog 176 #[.slice none 0 0, .int .i64 0, .int .i64 0, .int .i64 lim, f] w fun e w' => e = .returned (.tuple #[]) ∧ w' = w := by
  have CI := hid (cInsA0 f w)
  go_enter Tryz.func176, Tryz.ntmps176
  go_wp2_with fail
  refine wp_loop_rounds 1 ?_
  rw [rounds_succ]
  go_wp2_with fail
  refine CI.out.mono ?_
  rintro e w1 ⟨rfl, hw⟩
  subst hw
  go_wp2_with fail
  (try simp only [Exit.inBlock, Exit.then])
  refine bodyPost_ret (results_none rfl _ _ _) rfl ?_
  exact ⟨rfl, rfl⟩

set_option maxHeartbeats 2000000 in
theorem cSortA0 (f : Value) (w : World) :
    Calls Tryz.prog 155 #[.slice none 0 0, f] w fun e w' => e = .returned (.tuple #[]) ∧ w' = w := by
  have CI := hid (fun lim => cPdqA0 lim f w)
  have CL := hid (Tryz.bits_Len 0 w (by omega) (by omega))
  go_enter Tryz.func155, Tryz.ntmps155
  go_wp2_with fail
  refine CL.out.mono ?_
  rintro e w1 ⟨rfl, hw1⟩
  subst hw1
  go_wp2_with fail
  refine (CI.out _).mono ?_
  rintro e w2 ⟨rfl, hw2⟩
  subst hw2
  go_wp2_with fail
  go_end0
  exact ⟨rfl, rfl⟩

theorem ats_more {w1 : World} {B : Nat} {v : Value} {ps : List At} {q : At} (h : w1.ownsRow B 114 2 v (ps.length + 1) (atC ps ++ [.string q.name, .string q.value])) : ∃ a c, v = .slice a (ps ++ [q]).length c ∧ w1.ownsRow B 114 2 (.slice a (ps ++ [q]).length c) (ps ++ [q]).length (atC (ps ++ [q])) := by
  have e : atC ps ++ [.string q.name, .string q.value] = atC (ps ++ [q]) := by simp [atC]
  have e2 : (ps ++ [q]).length = ps.length + 1 := by simp
  rw [e] at h
  rw [e2]
  rcases h.2 with ⟨_, h0⟩ | ⟨g, c, cu, hv, hr⟩
  · omega
  · exact ⟨_, c, hv, by rw [← hv]; exact h⟩

/-- A row of attrs, in a block of its own. -/
def NewAts (w : World) (B : Nat) (a : Option Addr) (c : Nat) (l : List At) : Prop := (a = none ∧ c = 0 ∧ l = []) ∨ ∃ g, a = some ⟨g, 0, none⟩ ∧ B ≤ g ∧ Holds2 w g c l

theorem NewAts.of {w : World} {B : Nat} {a : Option Addr} {c : Nat} {l : List At} (h : w.ownsRow B 114 2 (.slice a l.length c) l.length (atC l)) : NewAts w B a c l := by
  obtain ⟨h0, h | ⟨g, cap, cu, e, h1, h2, h3, h4, h5, h6⟩⟩ := h
  · obtain ⟨e, e2⟩ := h
    injection e with e3 e4 e5
    exact .inl ⟨e3, e5, List.length_eq_zero_iff.1 e2⟩
  · injection e with e3 e4 e5
    subst e5
    exact .inr ⟨g, e3, h1, cu, h2, h5, h3, h6⟩

theorem NewAts.row {w : World} {B : Nat} {a : Option Addr} {c : Nat} {l : List At} (h : NewAts w B a c l) : AtRow w a l := by
  rcases h with ⟨rfl, rfl, rfl⟩ | ⟨g, rfl, h1, h2⟩
  · intro j hj; exact absurd hj (Nat.not_lt_zero _)
  · intro j hj
    obtain ⟨⟨k1, k2⟩, _⟩ := h2.cells hj
    exact ⟨g, 0, rfl, h2.lt, by rw [Nat.zero_add]; exact k1, by rw [Nat.zero_add]; exact k2⟩

theorem NewAts.below {w w' : World} {B : Nat} {a : Option Addr} {c : Nat} {l : List At} (h : NewAts w B a c l) (hb : Below w.heap.size w w') : NewAts w' B a c l := by
  rcases h with ⟨rfl, rfl, rfl⟩ | ⟨g, rfl, h1, h2⟩
  · exact .inl ⟨rfl, rfl, rfl⟩
  · exact .inr ⟨g, rfl, h1, h2.below hb h2.lt⟩

noncomputable def nodeclB (x : At) : Bool := !(declF x).isSome

noncomputable def ltA (ls : List At) (x y : At) : Bool := decide (cmpA ls x y < 0)

theorem filt_next {l : List At} {i : Nat} (h : i < l.length) : (l.take (i + 1)).filter nodeclB = (l.take i).filter nodeclB ++ (if nodeclB l[i] then [l[i]] else []) := by
  rw [take_snocN h, List.filter_append]
  congr 1
  cases hq : nodeclB l[i] <;> simp [hq]

set_option maxRecDepth 8000 in
set_option maxHeartbeats 4000000 in
theorem cOtherAttrs (aa : Option Addr) (ca : Nat) (l : List At) (F : FuncId) (C : Array Value) (ls : List At) (w : World) (ho : OrdB (ltA ls)) (hA : Asks F C w ls) (hR : AtRow w aa l) (hz : AtSz 1048576 l) (hn : l.length ≤ 6) :
    Calls Tryz.prog 120 #[.slice aa l.length ca, .func (.func F) #[] C] w fun e w' => ∃ a c, e = .returned (.slice a (sortG (ltA ls) (l.filter nodeclB)).length c) ∧ NewAts w' w.heap.size a c (sortG (ltA ls) (l.filter nodeclB)) ∧ Below w.heap.size w w' := by
  obtain ⟨S, hS⟩ : ∃ S, sortG (ltA ls) (l.filter nodeclB) = S := ⟨_, rfl⟩
  rw [hS]
  have HSS := hid hS
  clear hS
  obtain ⟨i0, hi, hz0, hz1, hz2⟩ := info_parts infoAtW
  have HI := hid (And.intro hi (And.intro hz0 (And.intro hz1 hz2)))
  clear hi hz0 hz1 hz2
  have HB0 := hid ((Below.refl w.heap.size w).alloc (Nat.le_refl _) (.cells #[.func (.func F) #[] C] 98))
  have M0 := hid (heap_alloc_new w (.cells #[.func (.func F) #[] C] 98))
  have hs0 : (w.alloc (.cells #[.func (.func F) #[] C] 98)).heap.size = w.heap.size + 1 := by simp
  obtain ⟨w0, hw0⟩ : ∃ w0, w.alloc (.cells #[.func (.func F) #[] C] 98) = w0 := ⟨_, rfl⟩
  rw [hw0] at HB0 M0 hs0
  have HA := hid (hA.below HB0.out)
  have HC := hid (show w0.cell? ⟨w.heap.size, 0, none⟩ = some (.func (.func F) #[] C) by rw [Lib.cell_of_heap M0.out]; rfl)
  have HS0 := hid hs0
  have HO := hid ho
  have HR := hid (hR.below HB0.out)
  have HZ := hid hz
  have HW0 := hid hw0
  have hmf : ∀ (fn : Fn) (first cap : Array Value) (w : World), (Instr.makeFunc fn first cap).run Tryz.prog w = .ok (.func fn first cap) w := fun _ _ _ _ => rfl
  clear ho hA hR hz hs0 hw0
  obtain ⟨n, hnn⟩ : ∃ n, l.length = n := ⟨_, rfl⟩
  have HN := hid hnn
  rw [hnn] at hn ⊢
  clear hnn
  go_enter Tryz.func120, Tryz.ntmps120
  go_wp2_with fail
  simp only [HW0.out]
  go_loopw [5, 12] (fun v5 v12 wr => ∃ (j : Nat) (a8 : Option Addr) (c8 : Nat) (ps : List At), v12 = .int .i64 (j : Int) ∧ j ≤ n ∧ v5 = .slice a8 ps.length c8 ∧ ps.length ≤ j ∧ Hid (ps = (l.take j).filter nodeclB) ∧ Hid (wr.ownsRow w0.heap.size 114 2 (.slice a8 ps.length c8) ps.length (atC ps)) ∧ Hid (Below w0.heap.size w0 wr)) (fun _ v12 _ => n - (intOf v12).toNat)
  case atStart => exact ⟨0, none, 0, [], rfl, Nat.zero_le _, rfl, Nat.zero_le _, rfl, World.ownsRow_nil _ _ _ _, Below.refl _ _⟩
  case round =>
    obtain ⟨j, a8, c8, ps, rfl, hj, rfl, hps, HK, HOW, HB⟩ := hrel
    by_cases hjl : j < n
    · have hjt : j < l.length := by rw [HN.out]; exact hjl
      have hjn : (j : Int) < (n : Int) := by omega
      obtain ⟨b, o, rfl, hb, c1, c2⟩ := (HR.out.below HB.out) j hjt
      have HS := hid (HZ.out _ (List.getElem_mem hjt))
      have HTS := hid (filt_next hjt)
      obtain ⟨y, hy⟩ : ∃ y, l[j] = y := ⟨_, rfl⟩
      rw [hy] at c1 c2 HS HTS
      clear hy
      rw [← HK.out] at HTS
      have CD := hid (fun wx => cDeclaredBy y wx HS.out.1)
      have HND := hid (show nodeclB y = !(declF y).isSome from rfl)
      obtain ⟨D, hD⟩ : ∃ D, (declF y).isSome = D := ⟨_, rfl⟩
      rw [hD] at CD HND
      clear hD
      generalize (declF y).getD ⟨#[]⟩ = DP at *
      have HBX := hid (HB.out.alloc HB.out.size (.cells #[.string y.name, .string y.value] 114))
      have HO1 := hid (HOW.out.alloc (.cells #[.string y.name, .string y.value] 114))
      have MX := hid (heap_alloc_new wr (.cells #[.string y.name, .string y.value] 114))
      obtain ⟨nk, hnk⟩ : ∃ nk, ps.length = nk := ⟨_, rfl⟩
      have HNK := hid hnk
      rw [hnk] at hps HO1 ⊢
      clear hnk HOW
      go_wp2_with fail
      refine (CD.out _).mono ?_
      rintro e w1 ⟨rfl, hb1⟩
      have HB1 := hid (bb HBX.out hb1)
      have HO2 := hid (ownsRow_below HO1.out hb1)
      obtain ⟨⟨d1, d2⟩, _⟩ := box2e (blk_below MX.out hb1)
      clear hb1 HBX CD c1 c2 HO1 hb HB MX
      cases D with
      | true =>
        have HE := hid (show ps = (l.take (j + 1)).filter nodeclB by rw [HTS.out, HND.out]; simp)
        go_wp2_with fail
        go_roundw
        case rel => exact ⟨j + 1, a8, c8, ps, by go_num, by omega, by rw [HNK.out], by rw [HNK.out]; omega, HE.out, by rw [HNK.out]; exact HO2.out, HB1.out⟩
        case measure => simp [intOf]; omega
      | false =>
        have HE := hid (show ps ++ [y] = (l.take (j + 1)).filter nodeclB by rw [HTS.out, HND.out]; simp)
        have hsz := HB1.out.size
        go_wp2_with (at_builtin; refine wpList_append_own _ rfl _ _ 40 rfl w0.heap.size 114 i0 (.agg #[.string ⟨#[]⟩, .string ⟨#[]⟩]) 2 32 Tryz.underlying40 HI.out.1 HI.out.2.1 HI.out.2.2.1 HI.out.2.2.2 rfl (by decide) _ _ _ rfl (HO2.out.alloc _) ⟨w1.heap.size, 0, none⟩ 1 1 [.string y.name, .string y.value] rfl rfl (two_cell _ _ _ _) (two_str _ _) (by unfold maxLen; omega) (by omega) (by simp; omega) ?_)
        intro v' w7 hown' hgrow _
        have HB7 := hid ((HB1.out.alloc hsz _).grown hgrow (by simp; omega) (fun k hk => (HO2.out.lt k hk).1))
        rw [← HNK.out] at hown'
        obtain ⟨a9, c9, rfl, ho9⟩ := ats_more (q := y) hown'
        have HO9 := hid ho9
        clear hown' hgrow ho9
        have HL9 := hid (show (ps ++ [y]).length ≤ j + 1 by rw [List.length_append, HNK.out]; show _ + 1 ≤ _; omega)
        generalize ps ++ [y] = ps9 at *
        clear d1 d2
        go_wp2_with fail
        go_roundw
        case rel => exact ⟨j + 1, a9, c9, ps9, by go_num, by omega, rfl, HL9.out, HE.out, HO9.out, HB7.out⟩
        case measure => simp [intOf]; omega
    · have hjn : j = n := by omega
      subst hjn
      have HE := hid (show ps = l.filter nodeclB by
        have h := HK.out
        rw [List.take_of_length_le (by rw [HN.out]; omega)] at h
        exact h)
      have HBw := hid (show Below w.heap.size w wr from HB0.out.trans (HB.out.mono HB0.out.size))
      have HNA := hid (NewAts.of HOW.out)
      have HPZ := hid (show AtSz 1048576 ps from fun x hx => HZ.out x (by rw [HE.out] at hx; exact (List.mem_filter.1 hx).1))
      rcases HNA.out with ⟨h1, h2, h3⟩ | ⟨G, h1, h2, h3⟩
      · have HEM := hid (show S = [] by rw [← HSS.out, ← HE.out, h3]; rfl)
        subst h1 h2 h3
        have CS := hid (cSortA0 (.func (.func 156) #[] #[.pointer (some ⟨w.heap.size, 0, none⟩)]) wr)
        clear HOW HNA HPZ HK HE
        go_wp2_with fail
        refine CS.out.mono ?_
        rintro e w2 ⟨rfl, hw2⟩
        subst hw2
        go_wp2_with fail
        go_ret
        exact ⟨none, 0, by rw [HEM.out]; rfl, .inl ⟨rfl, rfl, HEM.out⟩, HBw.out⟩
      · subst h1
        have CS := hid (cSortA G c8 c8 ps F C ls w.heap.size w0 wr HO.out HA.out (by have := HS0.out; omega) HC.out HB.out h2 h3 HPZ.out (by omega))
        have HGB := hid (show w.heap.size ≤ G by have := HS0.out; omega)
        have HLE := hid (show S.length = ps.length by rw [← HSS.out, ← HE.out]; exact (sort_all HO.out ps).2.1)
        have HSP := hid (show sortG (fun x y => decide (cmpA ls x y < 0)) ps = S by rw [← HSS.out, ← HE.out]; rfl)
        rw [HSP.out] at CS
        obtain ⟨nk, hnk⟩ : ∃ nk, ps.length = nk := ⟨_, rfl⟩
        have HNK := hid hnk
        rw [hnk] at CS ⊢
        clear HOW HNA HPZ HK hnk h2 h3
        go_wp2_with fail
        refine CS.out.mono ?_
        rintro e w2 ⟨rfl, h4, h5⟩
        have H4 := hid h4
        have H5 := hid (show Below w.heap.size w w2 from HB0.out.trans (h5.mono HB0.out.size))
        clear h4 h5 CS
        go_wp2_with fail
        go_ret
        exact ⟨some ⟨G, 0, none⟩, c8, by rw [HLE.out, HNK.out]; rfl, .inr ⟨G, rfl, HGB.out, H4.out⟩, H5.out⟩

end Go.Proofs.YteninofjeidljaaGreat

namespace Go.Proofs

open Go.Shelf

def Tryz.lays190_ren : Go.Shelf.Ren := ⟨fun | 190 => 160 | 125 => 177 | 258 => 180 | 128 => 194 | 129 => 195 | 302 => 197 | 303 => 198 | 304 => 199 | 305 => 200 | 306 => 201 | 307 => 202 | 308 => 203 | 309 => 204 | 310 => 205 | 333 => 212 | 329 => 208 | 330 => 209 | 334 => 213 | 335 => 214 | 336 => 196 | 344 => 217 | n => n, fun | 31 => 112 | 9 => 9 | 3 => 3 | 46 => 171 | 0 => 0 | 51 => 216 | 53 => 218 | 4 => 4 | 183 => 209 | 182 => 208 | 131 => 213 | 5 => 5 | 218 => 226 | 222 => 230 | 228 => 234 | 229 => 235 | n => n, fun | n => n⟩

theorem Tryz.lays190 : Go.Proofs.Lays.n190 Tryz.prog Tryz.lays190_ren := {
  mixed := by kernel_rfl
  f125 := Tryz.func177.trans (congrArg some (by kernel_rfl))
  f128 := Tryz.func194.trans (congrArg some (by kernel_rfl))
  f129 := Tryz.func195.trans (congrArg some (by kernel_rfl))
  f190 := Tryz.func160.trans (congrArg some (by kernel_rfl))
  f258 := Tryz.func180.trans (congrArg some (by kernel_rfl))
  f302 := Tryz.func197.trans (congrArg some (by kernel_rfl))
  f303 := Tryz.func198.trans (congrArg some (by kernel_rfl))
  f304 := Tryz.func199.trans (congrArg some (by kernel_rfl))
  f305 := Tryz.func200.trans (congrArg some (by kernel_rfl))
  f306 := Tryz.func201.trans (congrArg some (by kernel_rfl))
  f307 := Tryz.func202.trans (congrArg some (by kernel_rfl))
  f308 := Tryz.func203.trans (congrArg some (by kernel_rfl))
  f309 := Tryz.func204.trans (congrArg some (by kernel_rfl))
  f310 := Tryz.func205.trans (congrArg some (by kernel_rfl))
  f329 := Tryz.func208.trans (congrArg some (by kernel_rfl))
  f330 := Tryz.func209.trans (congrArg some (by kernel_rfl))
  f333 := Tryz.func212.trans (congrArg some (by kernel_rfl))
  f334 := Tryz.func213.trans (congrArg some (by kernel_rfl))
  f335 := Tryz.func214.trans (congrArg some (by kernel_rfl))
  f336 := Tryz.func196.trans (congrArg some (by kernel_rfl))
  f344 := Tryz.func217.trans (congrArg some (by kernel_rfl))
  t0 := Tryz.underlying0
  a0 := Tryz.isAgg0
  z0 := Tryz.sizeOf0
  v0 := Tryz.zeroValue0
  t3 := Tryz.underlying3
  a3 := Tryz.isAgg3
  z3 := Tryz.sizeOf3
  v3 := Tryz.zeroValue3
  t4 := Tryz.underlying4
  a4 := Tryz.isAgg4
  z4 := Tryz.sizeOf4
  v4 := Tryz.zeroValue4
  t5 := Tryz.underlying5
  a5 := Tryz.isAgg5
  z5 := Tryz.sizeOf5
  v5 := Tryz.zeroValue5
  t9 := Tryz.underlying9
  a9 := Tryz.isAgg9
  z9 := Tryz.sizeOf9
  v9 := Tryz.zeroValue9
  t31 := Tryz.underlying112
  a31 := Tryz.isAgg112
  z31 := Tryz.sizeOf112
  v31 := Tryz.zeroValue112
  t46 := Tryz.underlying171
  a46 := Tryz.isAgg171
  z46 := Tryz.sizeOf171
  v46 := Tryz.zeroValue171
  t51 := Tryz.underlying216
  a51 := Tryz.isAgg216
  z51 := Tryz.sizeOf216
  v51 := Tryz.zeroValue216
  t53 := Tryz.underlying218
  a53 := Tryz.isAgg218
  z53 := Tryz.sizeOf218
  v53 := Tryz.zeroValue218
  t131 := Tryz.underlying213
  a131 := Tryz.isAgg213
  z131 := Tryz.sizeOf213
  v131 := Tryz.zeroValue213
  t182 := Tryz.underlying208
  a182 := Tryz.isAgg208
  z182 := Tryz.sizeOf208
  v182 := Tryz.zeroValue208
  t183 := Tryz.underlying209
  a183 := Tryz.isAgg209
  z183 := Tryz.sizeOf209
  v183 := Tryz.zeroValue209
  t218 := Tryz.underlying226
  a218 := Tryz.isAgg226
  z218 := Tryz.sizeOf226
  v218 := Tryz.zeroValue226
  t222 := Tryz.underlying230
  a222 := Tryz.isAgg230
  z222 := Tryz.sizeOf230
  v222 := Tryz.zeroValue230
  t228 := Tryz.underlying234
  a228 := Tryz.isAgg234
  z228 := Tryz.sizeOf234
  v228 := Tryz.zeroValue234
  t229 := Tryz.underlying235
  a229 := Tryz.isAgg235
  z229 := Tryz.sizeOf235
  v229 := Tryz.zeroValue235 }

open Go.Sort Go.RowKit in
theorem Tryz.slices_Sort_string (blk off cap : Nat) (ss : List (List UInt8)) (w : World) (hH : Holds encStr w blk off ss.toArray) (hblk : blk < w.heap.size) (hsz : ss.length < 4611686018427387904) :
    Calls Tryz.prog 160 #[.slice (some ⟨blk, off, none⟩) ss.length cap] w fun e w' =>
      e = .returned (.tuple #[]) ∧ ∃ n os, w' = grow (putRow encStr (Sort.ahead w n) blk off (ss.mergeSort fun x y => decide (x ≤ y)).toArray) os := Any.slices_Sort_string Tryz.lays190 blk off cap ss w hH hblk hsz

def Tryz.lays194_ren : Go.Shelf.Ren := ⟨fun | 194 => 161 | n => n, fun | 31 => 112 | 9 => 9 | 3 => 3 | 4 => 4 | 0 => 0 | n => n, fun | n => n⟩

theorem Tryz.lays194 : Go.Proofs.Lays.n194 Tryz.prog Tryz.lays194_ren := {
  mixed := by kernel_rfl
  f194 := Tryz.func161.trans (congrArg some (by kernel_rfl))
  t0 := Tryz.underlying0
  a0 := Tryz.isAgg0
  z0 := Tryz.sizeOf0
  v0 := Tryz.zeroValue0
  t3 := Tryz.underlying3
  a3 := Tryz.isAgg3
  z3 := Tryz.sizeOf3
  v3 := Tryz.zeroValue3
  t4 := Tryz.underlying4
  a4 := Tryz.isAgg4
  z4 := Tryz.sizeOf4
  v4 := Tryz.zeroValue4
  t9 := Tryz.underlying9
  a9 := Tryz.isAgg9
  z9 := Tryz.sizeOf9
  v9 := Tryz.zeroValue9
  t31 := Tryz.underlying112
  a31 := Tryz.isAgg112
  z31 := Tryz.sizeOf112
  v31 := Tryz.zeroValue112 }

open Go.RowKit Go.Lib Go.Sort in
theorem Tryz.slices_Compact_string (blk off cap : Nat) (zs : List (List UInt8)) (w : World) (hH : Holds encStr w blk off zs.toArray) (hsz : zs.length ≤ 9223372036854775807) (hcap : zs.length ≤ cap) :
    Calls Tryz.prog 161 #[.slice (some ⟨blk, off, none⟩) zs.length cap] w fun e w' => e = .returned (.slice (some ⟨blk, off, none⟩) (Lib.compact zs).length cap) ∧ ∃ q, w' = putRow encStr (Sort.ahead w q) blk off (Lib.compact zs ++ List.replicate (zs.length - (Lib.compact zs).length) []).toArray := Any.slices_Compact_string Tryz.lays194 blk off cap zs w hH hsz hcap

end Go.Proofs

namespace Go.Proofs.YteninofjeidljaaGreat

open Go.RowKit Go.Sort

set_option linter.unusedVariables false

set_option linter.unusedSimpArgs false

theorem below_put {w wx : World} {g n : Nat} {d : Array BL} (h : Below w.heap.size w wx) (hg : w.heap.size ≤ g) : Below w.heap.size w (putRow encStr (Sort.ahead wx n) g 0 d) := by
  refine ⟨h.os, h.tape, h.output, by rw [size_putRow]; exact h.size, fun k hk => ?_⟩
  rw [← h.block k hk]
  unfold putRow mapBlock
  show (Array.modify _ _ _)[k]? = _
  rw [Array.getElem?_modify]
  have : ¬ g = k := by omega
  rw [if_neg this]
  rfl

theorem below_grow {w wx : World} {os : Array Obj} (h : Below w.heap.size w wx) : Below w.heap.size w (grow wx os) :=
  ⟨h.os, h.tape, h.output, by rw [size_grow]; exact Nat.le_trans h.size (Nat.le_add_right _ _), fun k hk => by
    rw [heap_grow_old wx os (Nat.lt_of_lt_of_le hk h.size)]
    exact h.block k hk⟩

/-- The prefixes of the others that have one, behind the element's own. -/
noncomputable def rawP (nm : ByteArray) (os : List At) : List ByteArray := [preS nm] ++ (os.filter fun x => !decide ((preS x.name).size = 0)).map fun x => preS x.name

theorem rawP_next (nm : ByteArray) {os : List At} {i : Nat} (h : i < os.length) : rawP nm (os.take (i + 1)) = rawP nm (os.take i) ++ (if (preS os[i].name).size = 0 then [] else [preS os[i].name]) := by
  unfold rawP
  rw [take_snocN h, List.filter_append, List.map_append, List.append_assoc]
  congr 2
  by_cases hq : (preS os[i].name).size = 0
  · rw [if_pos hq, List.filter_cons, if_neg (by rw [decide_eq_true hq]; decide)]
    rfl
  · rw [if_neg hq, List.filter_cons, if_pos (by rw [decide_eq_false hq]; rfl)]
    rfl

theorem compact_len (M : List BL) : (Lib.compact M).length ≤ M.length := by
  unfold Lib.compact Lib.compactUpTo
  rw [List.length_map]
  exact Nat.le_trans (List.length_filter_le _ _) (by rw [List.length_range]; exact Nat.le_refl _)

noncomputable def needL (nm : ByteArray) (os : List At) : List ByteArray := (Lib.compact (((rawP nm os).map ByteArray.toList).mergeSort fun x y => decide (x ≤ y))).map mkB

theorem strs_more {w1 : World} {B : Nat} {v : Value} {ps : List ByteArray} {q : ByteArray} (h : w1.ownsRow B 9 1 v (ps.length + 1) (keyV ps ++ [.string q])) : ∃ g c, v = .slice (some ⟨g, 0, none⟩) (ps ++ [q]).length c ∧ B ≤ g ∧ w1.ownsRow B 9 1 (.slice (some ⟨g, 0, none⟩) (ps ++ [q]).length c) (ps ++ [q]).length (keyV (ps ++ [q])) := by
  have e : keyV ps ++ [.string q] = keyV (ps ++ [q]) := by simp [keyV]
  have e2 : (ps ++ [q]).length = ps.length + 1 := by simp
  rw [e] at h
  rw [e2]
  rcases h.2 with ⟨_, h0⟩ | ⟨g, c, cu, hv, hr⟩
  · omega
  · exact ⟨g, c, hv, hr.1, by rw [← hv]; exact h⟩

theorem own_one (w : World) (B : Nat) (p : ByteArray) (hB : B ≤ w.heap.size) : (w.alloc (.cells #[.string p] 9)).ownsRow B 9 1 (.slice (some ⟨w.heap.size, 0, none⟩) [p].length 1) [p].length (keyV [p]) :=
  ⟨rfl, .inr ⟨w.heap.size, 1, #[.string p], rfl, hB, heap_alloc_new w _, Nat.le_refl _, by decide, rfl, rfl⟩⟩

theorem own_holds {w1 : World} {B g c : Nat} {ps : List ByteArray} (h : w1.ownsRow B 9 1 (.slice (some ⟨g, 0, none⟩) ps.length c) ps.length (keyV ps)) : Holds encStr w1 g 0 (ps.map ByteArray.toList).toArray ∧ g < w1.heap.size ∧ ps.length ≤ c := by
  rcases h.2 with ⟨h0, _⟩ | ⟨g', c', cu, hv, h1, h2, h3, h4, h5, h6⟩
  · cases h0
  · injection hv with e1 e2 e3
    injection e1 with e1
    injection e1 with e1
    subst e1 e3
    refine ⟨fun j hj => ?_, lt_of_heap h2, h3⟩
    have hj' : j < ps.length := by simpa using hj
    refine ⟨?_, Lib.frozen_of_heap h2 _⟩
    have hl : j < ps.length * 1 := by omega
    have := World.ownsRow.cellAt h j hl
    rw [Nat.zero_add, this]
    simp only [keyV, List.getElem?_map, List.getElem?_eq_getElem hj', Option.map_some]
    have e : (ps.map ByteArray.toList).toArray[j]! = ps[j].toList := by simp [hj']
    rw [e]
    show some (Value.string ps[j]) = some (.string (mkB ps[j].toList))
    rw [mkB_eta]

theorem holds_cells {w : World} {g : Nat} {K : List BL} {R : List BL} (h : Holds encStr w g 0 (K ++ R).toArray) : CellsAt w g 0 (keyV (K.map mkB)) := by
  intro j u hj
  have hj' : j < K.length := by
    have := (List.getElem?_eq_some_iff.1 hj).1
    simpa [keyV] using this
  have h1 := (h j (by simp; omega)).1
  rw [h1]
  have e : (K ++ R).toArray[j]! = K[j] := by
    have hlt : j < (K ++ R).length := by rw [List.length_append]; omega
    rw [getElem!_pos _ j (by simpa using hlt)]
    simp [List.getElem_append_left hj']
  rw [e]
  simp only [keyV, List.map_map, List.getElem?_map, List.getElem?_eq_getElem hj', Option.map_some] at hj
  exact hj

set_option maxRecDepth 8000 in
set_option maxHeartbeats 4000000 in
theorem cNeeded (nm : ByteArray) (aa : Option Addr) (ca : Nat) (os : List At) (w : World) (hR : AtRow w aa os) (hz : AtSz 1048576 os) (hn : os.length ≤ 6) (hm : nm.size ≤ 1048576) :
    Calls Tryz.prog 122 #[.string nm, .slice aa os.length ca] w fun e w' => ∃ v, e = .returned v ∧ Rd w' 1 v (needL nm os).length (keyV (needL nm os)) ∧ Below w.heap.size w w' := by
  obtain ⟨i0, hi, hz0, hz1, hz2⟩ := info_parts infoS
  have HI := hid (And.intro hi (And.intro hz0 (And.intro hz1 hz2)))
  clear hi hz0 hz1 hz2
  obtain ⟨S, hS⟩ : ∃ S, needL nm os = S := ⟨_, rfl⟩
  rw [hS]
  have HSS := hid hS
  have CP := hid (fun wx => cPartsI nm wx hm)
  have HR := hid hR
  have HZ := hid hz
  have HP0 := hid (show rawP nm (os.take 0) = [preS nm] from rfl)
  clear hS hR hz hm
  obtain ⟨n, hnn⟩ : ∃ n, os.length = n := ⟨_, rfl⟩
  have HN := hid hnn
  rw [hnn] at hn ⊢
  clear hnn
  generalize preS nm = P0 at *
  generalize locS nm = L0 at *
  go_enter Tryz.func122, Tryz.ntmps122
  go_wp2_with fail
  refine (CP.out _).mono ?_
  rintro e w1 ⟨rfl, hb1⟩
  have HB1 := hid (hb1.alloc hb1.size (.cells #[.string P0] 9))
  have HO1 := hid (own_one w1 w.heap.size P0 hb1.size)
  have HG1 := hid hb1.size
  clear hb1 CP
  go_wp2_with fail
  go_loopw [7, 21] (fun v7 v21 wr => ∃ (j g c : Nat) (ps : List ByteArray), v21 = .int .i64 (j : Int) ∧ j ≤ n ∧ v7 = .slice (some ⟨g, 0, none⟩) ps.length c ∧ ps.length ≤ j + 1 ∧ Hid (ps = rawP nm (os.take j)) ∧ Hid (w.heap.size ≤ g) ∧ Hid (wr.ownsRow w.heap.size 9 1 (.slice (some ⟨g, 0, none⟩) ps.length c) ps.length (keyV ps)) ∧ Hid (Below w.heap.size w wr)) (fun _ v21 _ => n - (intOf v21).toNat)
  case atStart => exact ⟨0, w1.heap.size, 1, [P0], rfl, Nat.zero_le _, rfl, by simp, HP0.out.symm, HG1.out, HO1.out, HB1.out⟩
  case round =>
    clear HB1 HO1 HG1
    obtain ⟨j, g, c, ps, rfl, hj, rfl, hps, HK, HG, HOW, HB⟩ := hrel
    by_cases hjl : j < n
    · have hjt : j < os.length := by rw [HN.out]; exact hjl
      have hjn : (j : Int) < (n : Int) := by omega
      obtain ⟨b, o, rfl, hb, c1, c2⟩ := (HR.out.below HB.out) j hjt
      have HS := hid (HZ.out _ (List.getElem_mem hjt))
      have HTS := hid (rawP_next nm hjt)
      obtain ⟨y, hy⟩ : ∃ y, os[j] = y := ⟨_, rfl⟩
      rw [hy] at c1 c2 HS HTS
      clear hy
      rw [← HK.out] at HTS
      have CP := hid (fun wx => cPartsI y.name wx HS.out.1)
      have EP := empty_is (preS y.name)
      generalize preS y.name = Q at *
      generalize locS y.name = L at *
      have HBX := hid (HB.out.alloc HB.out.size (.cells #[.string y.name, .string y.value] 114))
      have HO1 := hid (HOW.out.alloc (.cells #[.string y.name, .string y.value] 114))
      obtain ⟨nk, hnk⟩ : ∃ nk, ps.length = nk := ⟨_, rfl⟩
      have HNK := hid hnk
      rw [hnk] at hps HO1 ⊢
      clear hnk HOW
      go_wp2_with fail
      refine (CP.out _).mono ?_
      rintro e w2 ⟨rfl, hb2⟩
      have HB2 := hid (bb HBX.out hb2)
      have HO2 := hid (ownsRow_below HO1.out hb2)
      clear hb2 HBX CP c1 c2 HO1 hb HB
      by_cases hq : Q.size = 0
      · rw [decide_eq_true hq] at EP
        have HE := hid (show ps = rawP nm (os.take (j + 1)) by rw [HTS.out, if_pos hq, List.append_nil])
        have EP2 : (!Q.toList.isEmpty) = false := by rw [EP]; rfl
        clear hq
        go_wp2_with fail
        go_roundw
        case rel => exact ⟨j + 1, g, c, ps, by go_num, by omega, by rw [HNK.out], by rw [HNK.out]; omega, HE.out, HG.out, by rw [HNK.out]; exact HO2.out, HB2.out⟩
        case measure => simp [intOf]; omega
      · rw [decide_eq_false hq] at EP
        have HE := hid (show ps ++ [Q] = rawP nm (os.take (j + 1)) by rw [HTS.out, if_neg hq])
        have EP2 : (!Q.toList.isEmpty) = true := by rw [EP]; rfl
        have hsz := HB2.out.size
        clear hq
        go_wp2_with (at_builtin; refine wpList_append_own _ rfl _ _ 112 rfl w.heap.size 9 i0 _ 1 16 Tryz.underlying112 HI.out.1 HI.out.2.1 HI.out.2.2.1 HI.out.2.2.2 rfl (by decide) _ _ _ rfl (HO2.out.alloc _) ⟨w2.heap.size, 0, none⟩ 1 1 [.string Q] rfl rfl (one_cell _ _ _) (one_str _) (by unfold maxLen; omega) (by omega) (by simp; omega) ?_)
        intro v' w7 hown' hgrow _
        have HB7 := hid ((HB2.out.alloc hsz _).grown hgrow (by simp; omega) (fun k hk => (HO2.out.lt k hk).1))
        rw [← HNK.out] at hown'
        obtain ⟨g9, c9, rfl, hg9, ho9⟩ := strs_more (q := Q) hown'
        have HO9 := hid ho9
        have HG9 := hid hg9
        clear hown' hgrow ho9 hg9
        have HL9 := hid (show (ps ++ [Q]).length ≤ j + 1 + 1 by rw [List.length_append, HNK.out]; show _ + 1 ≤ _; omega)
        generalize ps ++ [Q] = ps9 at *
        go_wp2_with fail
        go_roundw
        case rel => exact ⟨j + 1, g9, c9, ps9, by go_num, by omega, rfl, HL9.out, HE.out, HG9.out, HO9.out, HB7.out⟩
        case measure => simp [intOf]; omega
    · have hjn : j = n := by omega
      subst hjn
      have HE := hid (show ps = rawP nm os by
        have h := HK.out
        rw [List.take_of_length_le (by rw [HN.out]; omega)] at h
        exact h)
      obtain ⟨h1, h2, h3⟩ := own_holds HOW.out
      have CS := hid (Tryz.slices_Sort_string g 0 c (ps.map ByteArray.toList) wr h1 h2 (by rw [List.length_map]; omega))
      obtain ⟨M, hM⟩ : ∃ M, (ps.map ByteArray.toList).mergeSort (fun x y => decide (x ≤ y)) = M := ⟨_, rfl⟩
      have HML := hid (show M.length = ps.length by rw [← hM, List.length_mergeSort, List.length_map])
      have HH := hid h1
      have HLT := hid h2
      rw [hM, List.length_map] at CS
      have HM := hid hM
      have HCL := hid h3
      have HSZ := hid (show ps.length ≤ 9223372036854775807 by omega)
      obtain ⟨nk, hnk⟩ : ∃ nk, ps.length = nk := ⟨_, rfl⟩
      have HNK := hid hnk
      rw [hnk] at CS HML HCL HSZ ⊢
      clear hnk h1 h2 h3 hM HOW
      go_wp2_with fail
      refine CS.out.mono ?_
      rintro e w2 ⟨rfl, q, oo, hw2⟩
      have HB2 := hid (show Below w.heap.size w w2 by rw [hw2]; exact below_grow (below_put HB.out HG.out))
      have HH2 := hid (show Holds encStr w2 g 0 M.toArray by
        rw [hw2]
        exact holds_grow _ _ _ _ _ _ (by rw [size_putRow]; exact HLT.out) (holds_putRow _ _ _ _ (ps.map ByteArray.toList).toArray _ (holds_ahead _ _ _ _ _ _ HH.out) (by simp [HML.out, HNK.out])))
      have HL2 := hid (show g < w2.heap.size from Nat.lt_of_lt_of_le HLT.out (by rw [hw2, size_grow, size_putRow]; exact Nat.le_add_right _ _))
      have CC := hid (Tryz.slices_Compact_string g 0 c M w2 HH2.out (by rw [HML.out]; exact HSZ.out) (by rw [HML.out]; exact HCL.out))
      rw [HML.out] at CC
      clear hw2 CS HB
      go_wp2_with fail
      refine CC.out.mono ?_
      rintro e w3 ⟨rfl, q3, hw3⟩
      have HB3 := hid (show Below w.heap.size w w3 by rw [hw3]; exact below_put HB2.out HG.out)
      have HKL := hid (show (Lib.compact M).length ≤ nk by
        have := compact_len M
        rw [HML.out] at this
        exact this)
      have HH3 := hid (show Holds encStr w3 g 0 (Lib.compact M ++ List.replicate (nk - (Lib.compact M).length) []).toArray by
        rw [hw3]
        refine holds_putRow _ _ _ _ M.toArray _ (holds_ahead _ _ _ _ _ _ HH2.out) ?_
        have := HKL.out
        simp [HML.out]
        omega)
      have HSK := hid (show S = (Lib.compact M).map mkB by rw [← HSS.out]; unfold needL; rw [← HE.out, HM.out])
      have HRD := hid (show Rd w3 1 (.slice (some ⟨g, 0, none⟩) S.length c) S.length (keyV S) from by
        refine ⟨⟨g, 0, c, rfl, ?_, ?_, ?_⟩, ?_⟩
        · exact Nat.lt_of_lt_of_le HL2.out (by rw [hw3, size_putRow]; exact Nat.le_refl _)
        · rw [HSK.out, List.length_map]; exact Nat.le_trans HKL.out HCL.out
        · rw [HSK.out]; exact holds_cells HH3.out
        · simp [keyV])
      have HSL := hid (show (Lib.compact M).length = S.length by rw [HSK.out, List.length_map])
      rw [HSL.out]
      clear hw3 CC HH3
      go_wp2_with fail
      go_ret
      exact ⟨_, rfl, HRD.out, HB3.out⟩

end Go.Proofs.YteninofjeidljaaGreat

namespace Go.Proofs.YteninofjeidljaaGreat

open Go.RowKit

set_option linter.unusedVariables false

set_option linter.unusedSimpArgs false

theorem c_itself_58 (w : World) : Calls Tryz.prog 132 #[.int .u8 58] w fun e w' => e = .returned (.string ⟨#[58]⟩) ∧ Below w.heap.size w w' := c__impl_sign__itself 58 w

set_option maxHeartbeats 2000000 in
theorem cDeclaration (p m : ByteArray) (w : World) (hp : p.size ≤ 1048576) :
    Calls Tryz.prog 159 #[.string p, .string m] w fun e w' => e = .returned (.agg #[.string (nmD p), .string m]) ∧ Below w.heap.size w w' := by
  have HB0 := hid ((Below.refl w.heap.size w).alloc (Nat.le_refl _) (.cells #[.string ⟨#[]⟩, .string ⟨#[]⟩] 114))
  have M1 := hid (heap_alloc_new w (.cells #[.string ⟨#[]⟩, .string ⟨#[]⟩] 114))
  have E := empty_is p
  have C := hid c_itself_58
  by_cases hq : p.size = 0
  · have HV := hid (show nmD p = ⟨#[110, 115]⟩ by unfold nmD; rw [if_pos hq])
    rw [HV.out]
    rw [decide_eq_true hq] at E
    clear HV hq hp C
    obtain ⟨⟨y0, y1⟩, f0, f1⟩ := box2e M1.out
    go_enter Tryz.func159, Tryz.ntmps159
    go_wp2_with fail
    refine bodyPost_ret (v := .agg #[.string ⟨#[110, 115]⟩, .string m]) (by simp [results, Tryz.results159, go_sem, y0, y1]) rfl ⟨rfl, ?_⟩
    first
      | exact HB0.out
      | exact (Below.refl w.heap.size w).alloc (Nat.le_refl _) _
  · have HV := hid (show nmD p = (⟨#[110, 115, 58]⟩ : ByteArray) ++ p by unfold nmD; rw [if_neg hq])
    obtain ⟨N, hN⟩ : ∃ N, (⟨#[110, 115, 58]⟩ : ByteArray) ++ p = N := ⟨_, rfl⟩
    have HN := hid hN
    rw [HV.out, hN]
    rw [decide_eq_false hq] at E
    have e1 : (⟨#[110, 115]⟩ : ByteArray) ++ ⟨#[58]⟩ = ⟨#[110, 115, 58]⟩ := rfl
    have z1 : (⟨#[110, 115]⟩ : ByteArray).size + (⟨#[58]⟩ : ByteArray).size ≤ 9223372036854775807 := by decide
    have z2 : (⟨#[110, 115, 58]⟩ : ByteArray).size + p.size ≤ 9223372036854775807 := by
      have : (⟨#[110, 115, 58]⟩ : ByteArray).size = 3 := rfl
      omega
    clear HV hq
    go_enter Tryz.func159, Tryz.ntmps159
    go_wp2_with fail
    refine (C.out _).mono ?_
    rintro e w1 ⟨rfl, hb1⟩
    have HB1 := hid (bb HB0.out hb1)
    obtain ⟨⟨y0, y1⟩, f0, f1⟩ := box2e (blk_below M1.out hb1)
    clear hb1
    go_wp2_with fail
    refine bodyPost_ret (v := .agg #[.string N, .string m]) (by simp [results, Tryz.results159, go_sem, y0, y1]) rfl ⟨rfl, ?_⟩
    iterate 2 refine Below.setCell ?_ (show w.heap.size ≤ w.heap.size from Nat.le_refl _) _
    exact HB1.out

/-- A prefix of which it is said otherwise around, or nothing. -/
noncomputable def needB (ls l2 : List At) (p : ByteArray) : Bool := open Classical in !(lookL l2 p).isSome || !decide ((lookL l2 p).getD ⟨#[]⟩ = (lookL ls p).getD ⟨#[]⟩)

noncomputable def dclP (ls l2 : List At) (ps : List ByteArray) : List At := (ps.filter (needB ls l2)).map fun p => ⟨nmD p, (lookL ls p).getD ⟨#[]⟩⟩

theorem dclP_next (ls l2 : List At) {ps : List ByteArray} {i : Nat} (h : i < ps.length) : dclP ls l2 (ps.take (i + 1)) = dclP ls l2 (ps.take i) ++ (if needB ls l2 ps[i] then [⟨nmD ps[i], (lookL ls ps[i]).getD ⟨#[]⟩⟩] else []) := by
  unfold dclP
  rw [take_snocN h, List.filter_append, List.map_append]
  congr 1
  cases hq : needB ls l2 ps[i] <;> simp [hq]

set_option maxRecDepth 8000 in
set_option maxHeartbeats 4000000 in
theorem cNewDecl (v : Value) (ps : List ByteArray) (F F2 : FuncId) (C C2 : Array Value) (ls l2 : List At) (w : World) (hR : Rd w 1 v ps.length (keyV ps)) (hA : Asks F C w ls) (hA2 : Asks F2 C2 w l2) (hz : ∀ p ∈ ps, p.size ≤ 1048576) (hn : ps.length ≤ 12) :
    Calls Tryz.prog 121 #[v, .func (.func F) #[] C, .func (.func F2) #[] C2] w fun e w' => ∃ a c, e = .returned (.slice a (dclP ls l2 ps).length c) ∧ NewAts w' w.heap.size a c (dclP ls l2 ps) ∧ Below w.heap.size w w' := by
  obtain ⟨gb, go, gc, rfl, hgb, hgc, _⟩ := hR.at_
  obtain ⟨i0, hi, hz0, hz1, hz2⟩ := info_parts infoAtW
  have HI := hid (And.intro hi (And.intro hz0 (And.intro hz1 hz2)))
  clear hi hz0 hz1 hz2
  obtain ⟨S, hS⟩ : ∃ S, dclP ls l2 ps = S := ⟨_, rfl⟩
  rw [hS]
  have HSS := hid hS
  clear hS
  have HR := hid hR
  have HA := hid hA
  have HA2 := hid hA2
  have HZ := hid hz
  clear hR hA hA2 hz hgb
  obtain ⟨n, hnn⟩ : ∃ n, ps.length = n := ⟨_, rfl⟩
  have HN := hid hnn
  rw [hnn] at hn hgc HR ⊢
  clear hnn
  go_enter Tryz.func121, Tryz.ntmps121
  go_wp2_with fail
  go_loopw [7, 16] (fun v7 v16 wr => ∃ (j : Nat) (a8 : Option Addr) (c8 : Nat) (ds : List At), v16 = .int .i64 (j : Int) ∧ j ≤ n ∧ v7 = .slice a8 ds.length c8 ∧ ds.length ≤ j ∧ Hid (ds = dclP ls l2 (ps.take j)) ∧ Hid (wr.ownsRow w.heap.size 114 2 (.slice a8 ds.length c8) ds.length (atC ds)) ∧ Hid (Below w.heap.size w wr)) (fun _ v16 _ => n - (intOf v16).toNat)
  case atStart => exact ⟨0, none, 0, [], rfl, Nat.zero_le _, rfl, Nat.zero_le _, rfl, World.ownsRow_nil _ _ _ _, Below.refl _ _⟩
  case round =>
    obtain ⟨j, a8, c8, ds, rfl, hj, rfl, hds, HK, HOW, HB⟩ := hrel
    by_cases hjl : j < n
    · have hjt : j < ps.length := by rw [HN.out]; exact hjl
      have hjn : (j : Int) < (n : Int) := by omega
      obtain ⟨b', o', c', e', hb', _, hcell⟩ := (HR.out.below HB.out).key hjt
      obtain ⟨rfl, rfl⟩ : gb = b' ∧ go = o' := by cases e'; exact ⟨rfl, rfl⟩
      have HS := hid (HZ.out _ (List.getElem_mem hjt))
      have HTS := hid (dclP_next ls l2 hjt)
      obtain ⟨p, hp⟩ : ∃ p, ps[j] = p := ⟨_, rfl⟩
      rw [hp] at hcell HS HTS
      rw [← HK.out] at HTS
      clear hp e'
      have he := HA.out.1 p
      have he2 := HA2.out.1 p
      have CM := hid (fun wx (hb : Below w.heap.size w wx) => HA.out.2 p wx hb HS.out)
      have CS := hid (fun wx (hb : Below w.heap.size w wx) => HA2.out.2 p wx hb HS.out)
      have CD := hid (fun m wx => cDeclaration p m wx HS.out)
      have HNB := hid (show needB ls l2 p = (!(lookL l2 p).isSome || !(((lookL l2 p).getD ⟨#[]⟩).toList == ((lookL ls p).getD ⟨#[]⟩).toList)) by unfold needB; rw [str_beq])
      generalize (lookL ls p).getD ⟨#[]⟩ = M at *
      generalize (lookL ls p).isSome = I at *
      generalize (lookL l2 p).getD ⟨#[]⟩ = M2 at *
      generalize (lookL l2 p).isSome = I2 at *
      generalize nmD p = ND at *
      obtain ⟨nk, hnk⟩ : ∃ nk, ds.length = nk := ⟨_, rfl⟩
      have HNK := hid hnk
      have HO1 := hid HOW.out
      rw [hnk] at hds HO1 ⊢
      clear hnk HOW
      go_wp2_with fail
      refine (CM.out _ HB.out).mono ?_
      rintro e w1 ⟨rfl, hb1⟩
      have HB1 := hid (bb HB.out hb1)
      have HO2 := hid (ownsRow_below HO1.out hb1)
      clear hb1 CM HO1 HB hcell he
      go_wp2_with fail
      refine (CS.out _ HB1.out).mono ?_
      rintro e w2 ⟨rfl, hb2⟩
      have HB2 := hid (bb HB1.out hb2)
      have HO3 := hid (ownsRow_below HO2.out hb2)
      clear hb2 CS HO2 HB1 he2
      obtain ⟨Q, hQ⟩ : ∃ Q, (M2.toList == M.toList) = Q := ⟨_, rfl⟩
      have hQ2 : (M2.toList != M.toList) = !Q := by unfold bne; rw [hQ]
      rw [hQ] at HNB
      cases I2 with
      | false =>
        have HE := hid (show ds ++ [⟨ND, M⟩] = dclP ls l2 (ps.take (j + 1)) by rw [HTS.out, HNB.out]; rfl)
        go_wp2_with fail
        refine (CD.out _ _).mono ?_
        rintro e w3 ⟨rfl, hb3⟩
        have HB3 := hid (bb HB2.out hb3)
        have HO4 := hid (ownsRow_below HO3.out hb3)
        clear hb3 HO3 HB2
        have hsz := HB3.out.size
        go_wp2_with (at_builtin; refine wpList_append_own _ rfl _ _ 40 rfl w.heap.size 114 i0 (.agg #[.string ⟨#[]⟩, .string ⟨#[]⟩]) 2 32 Tryz.underlying40 HI.out.1 HI.out.2.1 HI.out.2.2.1 HI.out.2.2.2 rfl (by decide) _ _ _ rfl (HO4.out.alloc _) ⟨w3.heap.size, 0, none⟩ 1 1 [.string ND, .string M] rfl rfl (two_cell _ _ _ _) (two_str _ _) (by unfold maxLen; omega) (by omega) (by simp; omega) ?_)
        intro v' w7 hown' hgrow _
        have HB7 := hid ((HB3.out.alloc hsz _).grown hgrow (by simp; omega) (fun k hk => (HO4.out.lt k hk).1))
        rw [← HNK.out] at hown'
        obtain ⟨a9, c9, rfl, ho9⟩ := ats_more (q := ⟨ND, M⟩) hown'
        have HO9 := hid ho9
        clear hown' hgrow ho9
        have HL9 := hid (show (ds ++ [(⟨ND, M⟩ : At)]).length ≤ j + 1 by rw [List.length_append, HNK.out]; show _ + 1 ≤ _; omega)
        generalize ds ++ [(⟨ND, M⟩ : At)] = ds9 at *
        go_wp2_with fail
        go_roundw
        case rel => exact ⟨j + 1, a9, c9, ds9, by go_num, by omega, rfl, HL9.out, HE.out, HO9.out, HB7.out⟩
        case measure => simp [intOf]; omega
      | true =>
        cases Q with
        | false =>
          have HE := hid (show ds ++ [⟨ND, M⟩] = dclP ls l2 (ps.take (j + 1)) by rw [HTS.out, HNB.out]; rfl)
          go_wp2_with fail
          refine (CD.out _ _).mono ?_
          rintro e w3 ⟨rfl, hb3⟩
          have HB3 := hid (bb HB2.out hb3)
          have HO4 := hid (ownsRow_below HO3.out hb3)
          clear hb3 HO3 HB2
          have hsz := HB3.out.size
          go_wp2_with (at_builtin; refine wpList_append_own _ rfl _ _ 40 rfl w.heap.size 114 i0 (.agg #[.string ⟨#[]⟩, .string ⟨#[]⟩]) 2 32 Tryz.underlying40 HI.out.1 HI.out.2.1 HI.out.2.2.1 HI.out.2.2.2 rfl (by decide) _ _ _ rfl (HO4.out.alloc _) ⟨w3.heap.size, 0, none⟩ 1 1 [.string ND, .string M] rfl rfl (two_cell _ _ _ _) (two_str _ _) (by unfold maxLen; omega) (by omega) (by simp; omega) ?_)
          intro v' w7 hown' hgrow _
          have HB7 := hid ((HB3.out.alloc hsz _).grown hgrow (by simp; omega) (fun k hk => (HO4.out.lt k hk).1))
          rw [← HNK.out] at hown'
          obtain ⟨a9, c9, rfl, ho9⟩ := ats_more (q := ⟨ND, M⟩) hown'
          have HO9 := hid ho9
          clear hown' hgrow ho9
          have HL9 := hid (show (ds ++ [(⟨ND, M⟩ : At)]).length ≤ j + 1 by rw [List.length_append, HNK.out]; show _ + 1 ≤ _; omega)
          generalize ds ++ [(⟨ND, M⟩ : At)] = ds9 at *
          go_wp2_with fail
          go_roundw
          case rel => exact ⟨j + 1, a9, c9, ds9, by go_num, by omega, rfl, HL9.out, HE.out, HO9.out, HB7.out⟩
          case measure => simp [intOf]; omega
        | true =>
          have HE := hid (show ds = dclP ls l2 (ps.take (j + 1)) by rw [HTS.out, HNB.out]; simp)
          go_wp2_with fail
          go_roundw
          case rel => exact ⟨j + 1, a8, c8, ds, by go_num, by omega, by rw [HNK.out], by rw [HNK.out]; omega, HE.out, by rw [HNK.out]; exact HO3.out, HB2.out⟩
          case measure => simp [intOf]; omega
    · have hjn : j = n := by omega
      subst hjn
      have HE := hid (show ds = S by
        have h := HK.out
        rw [List.take_of_length_le (by rw [HN.out]; omega), HSS.out] at h
        exact h)
      have HNA := hid (NewAts.of HOW.out)
      rw [HE.out] at HNA
      have HLN := hid (show ds.length = S.length by rw [HE.out])
      generalize ds.length = nk at *
      go_wp2_with fail
      go_ret
      exact ⟨a8, c8, by rw [← HLN.out]; rfl, HNA.out, HB.out⟩

end Go.Proofs.YteninofjeidljaaGreat
