/- What the nearest one says of a prefix: contract of the specification's l11Last. The library contracts that the proofs lean on, laid at this program: a field a fact of the program, each contract one application. Contracts of strings.Builder at this program's own numbers: copyCheck, the writers, String; a builder that the call has made itself. Contracts of spec.Escaped and impl.Escaped: both write what escapedL says. -/
import Derived.Test.YtnbpcgeojmikoaaGreatDoorM1
import Derived.Test.YtnbpcgeojmikoaaGreatDoorM5
import Derived.Test.YtnbpcgeojmikoaaGreatDoorProg
import Derived.Test.YtnbpcgeojmikoaaGreatDoorRows
import Derived.Test.YtnbpcgeojmikoaaGreatDoorM4
import Derived.Test.YtnbpcgeojmikoaaGreatDoorM9
import Derived.Shelf.Strings.Builder1
import Derived.Shelf.Strings.Prefix
import Derived.Shelf.LaysM
import Derived.Shelf.Strconv.Itoa4
import Derived.Shelf.Strings.Repeat
import Derived.WalkKit
import Derived.OwnWalk
import Derived.Lib.Builder
import Derived.Lib.OthersKept
import Derived.Lib.AppendStr
import Derived.Laws.Externs
namespace Go.Proofs.YtnbpcgeojmikoaaGreatDoor
open Go.RowKit
set_option linter.unusedVariables false
set_option linter.unusedSimpArgs false

/-- What the last of these says of it. -/
noncomputable def lastF (l : List At) (p : ByteArray) : Option ByteArray := open Classical in (l.reverse.find? fun x => decide (x.name = p)).map (·.value)

theorem last_hit {l : List At} {p : ByteArray} {i : Nat} (h : i < l.length) (h1 : l[i].name = p) (h2 : ∀ x ∈ l.drop (i + 1), ¬ x.name = p) : lastF l p = some l[i].value := by
  unfold lastF
  have e : l.reverse = (l.drop (i + 1)).reverse ++ (l[i] :: (l.take i).reverse) := by
    conv => lhs; rw [← List.take_append_drop i l, List.drop_eq_getElem_cons h]
    rw [List.reverse_append, List.reverse_cons, List.append_assoc]
    rfl
  rw [e, List.find?_append]
  have e2 : (l.drop (i + 1)).reverse.find? (fun x => decide (x.name = p)) = none := by
    rw [List.find?_eq_none]
    intro x hx
    rw [List.mem_reverse] at hx
    simp [h2 x hx]
  rw [e2, List.find?_cons]
  simp [h1]

theorem last_none {l : List At} {p : ByteArray} (h : ∀ x ∈ l, ¬ x.name = p) : lastF l p = none := by
  unfold lastF
  rw [show l.reverse.find? (fun x => decide (x.name = p)) = none by
    rw [List.find?_eq_none]
    intro x hx
    rw [List.mem_reverse] at hx
    simp [h x hx]]
  rfl

set_option maxRecDepth 4000 in
set_option maxHeartbeats 2000000 in
theorem c_spec_l11Last (a : Option Addr) (cap : Nat) (l : List At) (p : ByteArray) (w : World) (hR : AtRow w a l) (hn : l.length ≤ 1048576) :
    Calls Tryz.prog 102 #[.slice a l.length cap, .string p] w fun e w' => e = .returned (.tuple #[.string ((lastF l p).getD ⟨#[]⟩), .bool (lastF l p).isSome]) ∧ Below w.heap.size w w' := by
  obtain ⟨V, hV⟩ : ∃ V, lastF l p = V := ⟨_, rfl⟩
  have HV := hid hV
  rw [hV]
  clear hV
  have HR := hid hR
  clear hR
  obtain ⟨n, hnn⟩ : ∃ n, l.length = n := ⟨_, rfl⟩
  have HN := hid hnn
  rw [hnn] at hn ⊢
  clear hnn
  go_enter Tryz.func102, Tryz.ntmps102
  go_wp2_with fail
  go_loopw [6] (fun k wr => ∃ i : Nat, k = .int .i64 ((i : Int) - 1) ∧ i ≤ n ∧ Hid (∀ x ∈ l.drop i, ¬ x.name = p) ∧ Hid (Below w.heap.size w wr)) (fun k _ => (intOf k + 1).toNat)
  case atStart => exact ⟨n, rfl, Nat.le_refl _, by show ∀ x ∈ _, _; rw [List.drop_of_length_le (by rw [HN.out]; exact Nat.le_refl _)]; exact fun x hx => absurd hx List.not_mem_nil, Below.refl _ _⟩
  case round =>
    obtain ⟨i, rfl, hi, HO, HB⟩ := hrel
    cases i with
    | zero =>
      have HF := hid (show V = none by rw [← HV.out]; exact last_none HO.out)
      have e0 : ((0 : Nat) : Int) - 1 = -1 := rfl
      rw [e0]
      go_wp2_with fail
      go_ret2
      exact ⟨by rw [HF.out]; rfl, HB.out⟩
    | succ i =>
      have e0 : ((i + 1 : Nat) : Int) - 1 = (i : Int) := by omega
      rw [e0]
      have his : i < l.length := by rw [HN.out]; exact hi
      have hin : (i : Int) < (n : Int) := by omega
      have hi0 : (0 : Int) ≤ (i : Int) := by omega
      obtain ⟨b, o, rfl, hb, c1, c2⟩ := HR.out.below HB.out i his
      have HIT := hid (show l[i].name = p → V = some l[i].value from fun h => by rw [← HV.out]; exact last_hit his h HO.out)
      have HNX := hid (show ¬ l[i].name = p → ∀ x ∈ l.drop i, ¬ x.name = p from fun h x hx => by
        rw [List.drop_eq_getElem_cons his] at hx
        rcases List.mem_cons.1 hx with rfl | h'
        · exact h
        · exact HO.out x h')
      have hd := str_beq l[i].name p
      obtain ⟨X, hX⟩ : ∃ X, l[i].name = X := ⟨_, rfl⟩
      obtain ⟨Y, hY⟩ : ∃ Y, l[i].value = Y := ⟨_, rfl⟩
      rw [hX] at c1 hd HIT HNX
      rw [hY] at c2 HIT
      clear hX hY
      by_cases hq : X = p
      · have HF := hid (HIT.out hq)
        rw [decide_eq_true hq] at hd
        clear hq HIT HNX
        go_wp2_with fail
        go_ret2
        exact ⟨by rw [HF.out]; rfl, HB.out⟩
      · have HN2 := hid (HNX.out hq)
        rw [decide_eq_false hq] at hd
        clear hq HIT HNX
        go_wp2_with fail
        go_roundw
        case rel => exact ⟨i, by go_num, by omega, HN2.out, HB.out⟩
        case measure => simp [intOf]

end Go.Proofs.YtnbpcgeojmikoaaGreatDoor

namespace Go.Proofs
open Go.Shelf
def Tryz.lays169_ren : Go.Shelf.Ren := ⟨fun | 169 => 200 | n => n, fun | 70 => 226 | 9 => 9 | 0 => 0 | 72 => 228 | 37 => 22 | 127 => 239 | 3 => 3 | 5 => 5 | n => n, fun | n => n⟩
theorem Tryz.lays169 : Go.Proofs.Lays.n169 Tryz.prog Tryz.lays169_ren := {
  mixed := by kernel_rfl
  f169 := Tryz.func200.trans (congrArg some (by kernel_rfl))
  t0 := Tryz.underlying0
  a0 := Tryz.isAgg0
  z0 := Tryz.sizeOf0
  v0 := Tryz.zeroValue0
  t3 := Tryz.underlying3
  a3 := Tryz.isAgg3
  z3 := Tryz.sizeOf3
  v3 := Tryz.zeroValue3
  t9 := Tryz.underlying9
  a9 := Tryz.isAgg9
  z9 := Tryz.sizeOf9
  v9 := Tryz.zeroValue9
  t37 := Tryz.underlying22
  a37 := Tryz.isAgg22
  z37 := Tryz.sizeOf22
  v37 := Tryz.zeroValue22
  t70 := Tryz.underlying226
  a70 := Tryz.isAgg226
  z70 := Tryz.sizeOf226
  v70 := Tryz.zeroValue226
  t72 := Tryz.underlying228
  a72 := Tryz.isAgg228
  z72 := Tryz.sizeOf228
  v72 := Tryz.zeroValue228
  t127 := Tryz.underlying239
  a127 := Tryz.isAgg239
  z127 := Tryz.sizeOf239
  v127 := Tryz.zeroValue239 }
theorem Tryz.Builder_Extra_169 : Builder.Extra Tryz.prog Tryz.lays169_ren := {
  sizeBuilder := by kernel_rfl
  liesBuilder := by kernel_rfl
  t5 := Tryz.underlying5
  a5 := Tryz.isAgg5
  z5 := Tryz.sizeOf5
  v5 := Tryz.zeroValue5
  infoByte := by kernel_rfl
  cellsByte := by kernel_rfl
  sizeByte := by kernel_rfl
  neB5 := by decide }
open Go.RowKit in
theorem Tryz.Builder_String_any (B b : Nat) (l : List UInt8) (w : World) (h : Lib.IsBuilder 228 5 B b (Lib.byteCells l) w) (hBw : B ≤ w.heap.size) :
    Calls Tryz.prog 200 #[.pointer (some ⟨b, 0, none⟩)] w fun e w' => e = .returned (.string ⟨l.toArray⟩) ∧ Below B w w' := Any.Builder_String_any Tryz.lays169 Tryz.Builder_Extra_169 B b l w h hBw
def Tryz.laysM173_ren : Go.Shelf.Ren := ⟨fun | 173 => 155 | 246 => 194 | 283 => 220 | 284 => 221 | 285 => 222 | 286 => 223 | 129 => 240 | 317 => 239 | 318 => 241 | 319 => 242 | 320 => 243 | 337 => 265 | 338 => 266 | n => n, fun | 2 => 2 | 3 => 3 | 9 => 9 | 4 => 4 | 171 => 248 | 0 => 0 | 53 => 249 | 37 => 22 | 5 => 5 | 173 => 252 | 212 => 266 | 51 => 254 | 20 => 20 | 213 => 267 | 46 => 201 | 232 => 295 | 233 => 296 | n => n, fun | 17 => 0 | 18 => 2 | 19 => 3 | n => n⟩
theorem Tryz.laysM173 : Go.Proofs.LaysM.n173 Tryz.prog Tryz.laysM173_ren := {
  mixed := by kernel_rfl
  f129 := Tryz.func240.trans (congrArg some (by kernel_rfl))
  f173 := Tryz.func155.trans (congrArg some (by kernel_rfl))
  f246 := Tryz.func194.trans (congrArg some (by kernel_rfl))
  f283 := Tryz.func220.trans (congrArg some (by kernel_rfl))
  f284 := Tryz.func221.trans (congrArg some (by kernel_rfl))
  f285 := Tryz.func222.trans (congrArg some (by kernel_rfl))
  f286 := Tryz.func223.trans (congrArg some (by kernel_rfl))
  f317 := Tryz.func239.trans (congrArg some (by kernel_rfl))
  f318 := Tryz.func241.trans (congrArg some (by kernel_rfl))
  f319 := Tryz.func242.trans (congrArg some (by kernel_rfl))
  f320 := Tryz.func243.trans (congrArg some (by kernel_rfl))
  f337 := Tryz.func265.trans (congrArg some (by kernel_rfl))
  f338 := Tryz.func266.trans (congrArg some (by kernel_rfl))
  t0 := Tryz.underlying0
  a0 := Tryz.isAgg0
  z0 := Tryz.sizeOf0
  v0 := Tryz.zeroValue0
  t2 := Tryz.underlying2
  a2 := Tryz.isAgg2
  z2 := Tryz.sizeOf2
  v2 := Tryz.zeroValue2
  t3 := Tryz.underlying3
  a3 := Tryz.isAgg3
  z3 := Tryz.sizeOf3
  v3 := Tryz.zeroValue3
  t4 := Tryz.underlying4
  a4 := Tryz.isAgg4
  z4 := Tryz.sizeOf4
  v4 := Tryz.zeroValue4
  t5 := Tryz.underlying5
  a5 := Tryz.isAgg5
  z5 := Tryz.sizeOf5
  v5 := Tryz.zeroValue5
  t9 := Tryz.underlying9
  a9 := Tryz.isAgg9
  z9 := Tryz.sizeOf9
  v9 := Tryz.zeroValue9
  t20 := Tryz.underlying20
  a20 := Tryz.isAgg20
  z20 := Tryz.sizeOf20
  v20 := Tryz.zeroValue20
  t37 := Tryz.underlying22
  a37 := Tryz.isAgg22
  z37 := Tryz.sizeOf22
  v37 := Tryz.zeroValue22
  t46 := Tryz.underlying201
  a46 := Tryz.isAgg201
  z46 := Tryz.sizeOf201
  v46 := Tryz.zeroValue201
  t51 := Tryz.underlying254
  a51 := Tryz.isAgg254
  z51 := Tryz.sizeOf254
  v51 := Tryz.zeroValue254
  t53 := Tryz.underlying249
  a53 := Tryz.isAgg249
  z53 := Tryz.sizeOf249
  v53 := Tryz.zeroValue249
  t171 := Tryz.underlying248
  a171 := Tryz.isAgg248
  z171 := Tryz.sizeOf248
  v171 := Tryz.zeroValue248
  t173 := Tryz.underlying252
  a173 := Tryz.isAgg252
  z173 := Tryz.sizeOf252
  v173 := Tryz.zeroValue252
  t212 := Tryz.underlying266
  a212 := Tryz.isAgg266
  z212 := Tryz.sizeOf266
  v212 := Tryz.zeroValue266
  t213 := Tryz.underlying267
  a213 := Tryz.isAgg267
  z213 := Tryz.sizeOf267
  t232 := Tryz.underlying295
  a232 := Tryz.isAgg295
  z232 := Tryz.sizeOf295
  v232 := Tryz.zeroValue295
  t233 := Tryz.underlying296
  a233 := Tryz.isAgg296
  z233 := Tryz.sizeOf296
  v233 := Tryz.zeroValue296
  g17 := by kernel_rfl
  g18 := by kernel_rfl
  g19 := by kernel_rfl
  i0 := by kernel_rfl
  i2 := by kernel_rfl
  i3 := by kernel_rfl
  i4 := by kernel_rfl
  i5 := by kernel_rfl
  i9 := by kernel_rfl
  i20 := by kernel_rfl
  i37 := by kernel_rfl
  i46 := by kernel_rfl
  i51 := by kernel_rfl
  i53 := by kernel_rfl
  i171 := by kernel_rfl
  i173 := by kernel_rfl
  i212 := by kernel_rfl
  i232 := by kernel_rfl
  i233 := by kernel_rfl
  m17 := by kernel_rfl
  m18 := by kernel_rfl
  m19 := by kernel_rfl }
open Go.RowKit Go.Sort Go.Lib in
theorem Tryz.strconv_FormatInt_10 (n : Int) (h0 : -9223372036854775808 ≤ n) (h1 : n ≤ 9223372036854775807) (w : World) (htab : Lib.TabIs Tryz.prog w "internal/strconv.uint64pow10" .u64 Lib.pow10Tab) :
    Calls Tryz.prog 155 #[.int .i64 n, .int .i64 10] w fun e w' => e = .returned (.string ⟨(Lib.itoa n).toArray⟩) ∧ ∃ k os, w' = grow (w.drewN k) os := Any.strconv_FormatInt_10 Tryz.laysM173 n h0 h1 w htab
def Tryz.lays105_ren : Go.Shelf.Ren := ⟨fun | 105 => 156 | 212 => 195 | 99 => 196 | 165 => 197 | 166 => 198 | 170 => 199 | 169 => 200 | 263 => 224 | 264 => 225 | 206 => 226 | 240 => 227 | 241 => 228 | 276 => 244 | 277 => 245 | n => n, fun | 9 => 9 | 3 => 3 | 4 => 4 | 20 => 20 | 0 => 0 | 46 => 201 | 109 => 224 | 5 => 5 | 72 => 228 | 76 => 232 | 51 => 254 | 146 => 255 | 53 => 249 | 148 => 257 | 70 => 226 | 37 => 22 | 75 => 231 | 127 => 239 | 164 => 269 | 80 => 63 | n => n, fun | n => n⟩
theorem Tryz.lays105 : Go.Proofs.Lays.n105 Tryz.prog Tryz.lays105_ren := {
  mixed := by kernel_rfl
  f99 := Tryz.func196.trans (congrArg some (by kernel_rfl))
  f105 := Tryz.func156.trans (congrArg some (by kernel_rfl))
  f165 := Tryz.func197.trans (congrArg some (by kernel_rfl))
  f166 := Tryz.func198.trans (congrArg some (by kernel_rfl))
  f169 := Tryz.func200.trans (congrArg some (by kernel_rfl))
  f170 := Tryz.func199.trans (congrArg some (by kernel_rfl))
  f206 := Tryz.func226.trans (congrArg some (by kernel_rfl))
  f212 := Tryz.func195.trans (congrArg some (by kernel_rfl))
  f240 := Tryz.func227.trans (congrArg some (by kernel_rfl))
  f241 := Tryz.func228.trans (congrArg some (by kernel_rfl))
  f263 := Tryz.func224.trans (congrArg some (by kernel_rfl))
  f264 := Tryz.func225.trans (congrArg some (by kernel_rfl))
  f276 := Tryz.func244.trans (congrArg some (by kernel_rfl))
  f277 := Tryz.func245.trans (congrArg some (by kernel_rfl))
  t0 := Tryz.underlying0
  a0 := Tryz.isAgg0
  z0 := Tryz.sizeOf0
  v0 := Tryz.zeroValue0
  t3 := Tryz.underlying3
  a3 := Tryz.isAgg3
  z3 := Tryz.sizeOf3
  v3 := Tryz.zeroValue3
  t4 := Tryz.underlying4
  a4 := Tryz.isAgg4
  z4 := Tryz.sizeOf4
  v4 := Tryz.zeroValue4
  t5 := Tryz.underlying5
  a5 := Tryz.isAgg5
  z5 := Tryz.sizeOf5
  v5 := Tryz.zeroValue5
  t9 := Tryz.underlying9
  a9 := Tryz.isAgg9
  z9 := Tryz.sizeOf9
  v9 := Tryz.zeroValue9
  t20 := Tryz.underlying20
  a20 := Tryz.isAgg20
  z20 := Tryz.sizeOf20
  v20 := Tryz.zeroValue20
  t37 := Tryz.underlying22
  a37 := Tryz.isAgg22
  z37 := Tryz.sizeOf22
  v37 := Tryz.zeroValue22
  t46 := Tryz.underlying201
  a46 := Tryz.isAgg201
  z46 := Tryz.sizeOf201
  v46 := Tryz.zeroValue201
  t51 := Tryz.underlying254
  a51 := Tryz.isAgg254
  z51 := Tryz.sizeOf254
  v51 := Tryz.zeroValue254
  t53 := Tryz.underlying249
  a53 := Tryz.isAgg249
  z53 := Tryz.sizeOf249
  v53 := Tryz.zeroValue249
  t70 := Tryz.underlying226
  a70 := Tryz.isAgg226
  z70 := Tryz.sizeOf226
  v70 := Tryz.zeroValue226
  t72 := Tryz.underlying228
  a72 := Tryz.isAgg228
  z72 := Tryz.sizeOf228
  v72 := Tryz.zeroValue228
  t75 := Tryz.underlying231
  a75 := Tryz.isAgg231
  z75 := Tryz.sizeOf231
  v75 := Tryz.zeroValue231
  t76 := Tryz.underlying232
  a76 := Tryz.isAgg232
  z76 := Tryz.sizeOf232
  v76 := Tryz.zeroValue232
  t109 := Tryz.underlying224
  a109 := Tryz.isAgg224
  z109 := Tryz.sizeOf224
  v109 := Tryz.zeroValue224
  t127 := Tryz.underlying239
  a127 := Tryz.isAgg239
  z127 := Tryz.sizeOf239
  v127 := Tryz.zeroValue239
  t146 := Tryz.underlying255
  a146 := Tryz.isAgg255
  z146 := Tryz.sizeOf255
  v146 := Tryz.zeroValue255
  t148 := Tryz.underlying257
  a148 := Tryz.isAgg257
  z148 := Tryz.sizeOf257
  v148 := Tryz.zeroValue257
  t164 := Tryz.underlying269
  a164 := Tryz.isAgg269
  z164 := Tryz.sizeOf269
  v164 := Tryz.zeroValue269 }
theorem Tryz.Builder_Extra_105 : Builder.Extra Tryz.prog Tryz.lays105_ren := {
  sizeBuilder := by kernel_rfl
  liesBuilder := by kernel_rfl
  t5 := Tryz.underlying5
  a5 := Tryz.isAgg5
  z5 := Tryz.sizeOf5
  v5 := Tryz.zeroValue5
  infoByte := by kernel_rfl
  cellsByte := by kernel_rfl
  sizeByte := by kernel_rfl
  neB5 := by decide }
open Go.RowKit Go.Lib in
theorem Tryz.strings_Repeat (s : ByteArray) (c : Nat) (w : World) (hc : c ≤ 9223372036854775807) (hlen : s.size * c ≤ 140737488355328) :
    Calls Tryz.prog 156 #[.string s, .int .i64 c] w fun e w' => e = .returned (.string ⟨(Lib.repeatL s.data.toList c).toArray⟩) ∧ Below w.heap.size w w' := Any.strings_Repeat Tryz.lays105 Tryz.Builder_Extra_105 s c w hc hlen
end Go.Proofs

namespace Go.Proofs.YtnbpcgeojmikoaaGreatDoor
open Go.RowKit

theorem row_kind {w : World} {B : Nat} {e : TypeId} {v : Value} {n : Nat} {xs : List Value} (h : w.ownsRow B e 1 v n xs) : ∀ g, v.ownBlock = some g → ∃ c fz, w.heap[g]? = some (.cells c e fz) := by
  intro g hg
  rcases h.2 with ⟨rfl, _⟩ | ⟨g', cap, cur, rfl, _, hgg, _⟩
  · simp [Value.ownBlock] at hg
  · simp [Value.ownBlock] at hg
    subst hg
    exact ⟨cur, _, hgg⟩

set_option maxRecDepth 100000 in
theorem cc_used (b : Nat) (w : World) (h0 : w.cell? ⟨b, 0, none⟩ = some (.pointer (some ⟨b, 0, none⟩))) :
    Calls Tryz.prog 227 #[.pointer (some ⟨b, 0, none⟩)] w fun e w' => e = .returned (.tuple #[]) ∧ w' = w := by
  obtain ⟨j, hj, _⟩ := Option.map_eq_some_iff.1 Tryz.Builder_Extra_169.sizeBuilder
  go_enter Tryz.func227, Tryz.ntmps227
  go_wp2
  rw [Lib.run_neq_ptr_same w _ Tryz.underlying226 hj]
  go_wp2
  go_end0
  exact ⟨rfl, rfl⟩

set_option maxHeartbeats 1000000 in
set_option maxRecDepth 100000 in
theorem cc_fresh (b : Nat) (w : World) (h0 : w.cell? ⟨b, 0, none⟩ = some (.pointer none)) (hsh : w.shape? b = some (228, 2)) (hfz : w.frozen? ⟨b, 0, none⟩ = false) :
    Calls Tryz.prog 227 #[.pointer (some ⟨b, 0, none⟩)] w fun e w' => e = .returned (.tuple #[]) ∧ w' = w.setCell ⟨b, 0, none⟩ (.pointer (some ⟨b, 0, none⟩)) := by
  obtain ⟨j, hj, hjs⟩ := Option.map_eq_some_iff.1 Tryz.Builder_Extra_169.sizeBuilder
  go_enter Tryz.func227, Tryz.ntmps227
  go_wp2
  rw [Lib.run_to_unsafe w ⟨b, 0, none⟩ Tryz.underlying226 Tryz.underlying269 hj (by rw [hjs]; decide) hsh (Nat.zero_lt_succ 1)]
  simp only [Result.andThen]
  rw [Oper.upon_value]
  go_wp2
  rw [run_callFunc_extern Tryz.func244 (by kernel_rfl) (by kernel_rfl) (by kernel_rfl) (e := Extern.AbiNoEscape.same) (by kernel_rfl)]
  rw [Lib.run_noEscape]
  simp only [Result.andThen]
  rw [Oper.upon_value]
  go_wp2
  rw [Lib.run_from_unsafe w ⟨b, 0, none⟩ Tryz.underlying269 Tryz.underlying226 hj hsh Tryz.Builder_Extra_169.liesBuilder]
  simp only [Result.andThen]
  rw [Oper.upon_value]
  go_wp2
  go_end0
  exact ⟨rfl, rfl⟩

theorem cc_any (B b : Nat) (bs : List Value) (w : World) (h : Lib.IsBuilder 228 5 B b bs w) :
    Calls Tryz.prog 227 #[.pointer (some ⟨b, 0, none⟩)] w fun e w' => e = .returned (.tuple #[]) ∧ (Lib.BuilderAt 228 5 B b (.pointer (some ⟨b, 0, none⟩)) bs w' ∧ Below B w w' ∧ Lib.OthersKept 5 (some b) w w') := by
  rcases h with h | h
  · refine (cc_fresh b w h.cell0 h.shape h.frozen0).mono ?_
    rintro e w' ⟨rfl, rfl⟩
    exact ⟨rfl, h.used _, (Below.refl B w).setCell (p := ⟨b, 0, none⟩) h.1 _, (Lib.OthersKept.refl _ _ w).setCell ⟨b, 0, none⟩ rfl _⟩
  · refine (cc_used b w h.cell0).mono ?_
    rintro e w' ⟨rfl, rfl⟩
    exact ⟨rfl, h, Below.refl B _, Lib.OthersKept.refl _ _ _⟩

set_option maxHeartbeats 2000000 in
set_option maxRecDepth 100000 in
theorem writeString (B b : Nat) (bs : List Value) (s : ByteArray) (w : World) (h : Lib.IsBuilder 228 5 B b bs w) (hlen : bs.length + s.size ≤ 140737488355328) (hBw : B ≤ w.heap.size) :
    Calls Tryz.prog 198 #[.pointer (some ⟨b, 0, none⟩), .string s] w fun e w' => e = .returned (.tuple #[.int .i64 s.size, .nilIface]) ∧ (Lib.IsBuilder 228 5 B b (bs ++ Lib.strCells s) w' ∧ Below B w w' ∧ Lib.OthersKept 5 (some b) w w') := by
  obtain ⟨i0, hi, hz0, hz1, hz2⟩ := info_parts Tryz.Builder_Extra_169.infoByte
  go_enter Tryz.func198, Tryz.ntmps198
  go_wp2_with (go_at_call 227; refine (cc_any B b bs _ h).mono ?_)
  rintro e w1 ⟨rfl, h1, hb1, hk1⟩
  obtain ⟨hB, v, hbk, hown, hne⟩ := h1
  have c0 : w1.cell? ⟨b, 0, none⟩ = some (.pointer (some ⟨b, 0, none⟩)) := by rw [Lib.cell_of_heap hbk]; rfl
  have c1 : w1.cell? ⟨b, 1, none⟩ = some v := by rw [Lib.cell_of_heap hbk]; rfl
  go_wp2_with (at_builtin; refine Lib.wpList_append_own_string _ rfl _ _ 22 9 rfl B 5 i0 Tryz.underlying22 Tryz.underlying9 hi hz0 hz1 hz2 _ _ _ rfl hown s rfl ?c3 ?c4 ?c5 ?_)
  case c3 => unfold maxLen; omega
  case c4 => omega
  case c5 => have := hb1.size; omega
  intro v' w2 hown' hgrow _
  have hlt : b < w1.heap.size := by
    rcases Nat.lt_or_ge b w1.heap.size with h' | h'
    · exact h'
    · simp [Array.getElem?_eq_none h'] at hbk
  have hb2 : w2.heap[b]? = some (.cells #[.pointer (some ⟨b, 0, none⟩), v] 228 (0, 0)) := by
    rw [hgrow.block b hlt (fun e => hne e.symm)]
    exact hbk
  have d0 : w2.cell? ⟨b, 0, none⟩ = some (.pointer (some ⟨b, 0, none⟩)) := by rw [Lib.cell_of_heap hb2]; rfl
  have d1 : w2.cell? ⟨b, 1, none⟩ = some v := by rw [Lib.cell_of_heap hb2]; rfl
  have f1 : w2.frozen? ⟨b, 1, none⟩ = false := Lib.frozen_of_heap hb2 1
  obtain ⟨ao, n', cap, rfl⟩ : ∃ ao n' cap, v' = .slice ao n' cap := by
    rcases hown'.2 with ⟨hv, _⟩ | ⟨g, cap, cur, hv, _⟩
    · exact ⟨_, _, _, hv⟩
    · exact ⟨_, _, _, hv⟩
  go_wp2
  go_ret2
  refine ⟨rfl, ?_, ?_, (hk1.grown hgrow (row_kind hown)).setCell ⟨b, 1, none⟩ rfl _⟩
  · exact Or.inr (Lib.BuilderAt.put (T := 228) (e := 5) hB hb2 (bs' := bs ++ Lib.strCells s) (by simpa [Lib.strCells_length] using hown') (by decide))
  · exact (hb1.grown hgrow (by have := hb1.size; omega) (fun k hk => (hown.lt k hk).1)).setCell (p := ⟨b, 1, none⟩) hB _

end Go.Proofs.YtnbpcgeojmikoaaGreatDoor

namespace Go.Proofs.YtnbpcgeojmikoaaGreatDoor
open Go.RowKit

/-- One round of the builder's loop. -/
theorem esc_round {q : Bool} {s : ByteArray} {k : Nat} {w1 : World} {B : Nat} (hlt : k < s.size)
    (h : Lib.IsBuilder 228 5 B B (Lib.byteCells (escL q (s.data.toList.take k)) ++ Lib.strCells ⟨(escB q s[k]).toArray⟩) w1) :
    Lib.IsBuilder 228 5 B B (Lib.byteCells (escL q (s.data.toList.take (k + 1)))) w1 := by
  rw [take_snocE s k hlt, escL_snoc, byteCells_app, ← strCells_eq (escB q s[k])]
  exact h

theorem len_esc (q : Bool) (s : ByteArray) (k : Nat) (hk : k ≤ s.size) : (Lib.byteCells (escL q (s.data.toList.take k))).length ≤ 6 * s.size := by
  rw [Lib.byteCells_length]
  have h := escL_le q (s.data.toList.take k)
  have h2 : (s.data.toList.take k).length ≤ k := List.length_take_le _ _
  omega

theorem size_esc (q : Bool) (c : UInt8) : (⟨(escB q c).toArray⟩ : ByteArray).size ≤ 6 := by
  have := escB_le q c
  simpa [ByteArray.size] using this

set_option maxRecDepth 100000 in
set_option maxHeartbeats 1000000 in
theorem c_impl_Escaped_no (s : ByteArray) (q : Bool) (w : World) (h0 : s.size ≤ 1048576) (hp : plainL s.data.toList = false) :
    Calls Tryz.prog 187 #[.string s, .bool q] w fun e w' => e = .returned (.string ⟨(escapedL q s.data.toList).toArray⟩) ∧ Below w.heap.size w w' := by
  have e : escapedL q s.data.toList = [] := by simp [escapedL, hp]
  rw [e]
  go_enter Tryz.func187, Tryz.ntmps187
  go_wp2_with (go_at_call 204; refine (c_impl_PlainOk _ _ (by unfold maxLen; omega)).mono ?_; rintro e w' ⟨rfl, rfl⟩)
  go_ret
  exact ⟨rfl, Below.refl _ _⟩

set_option maxRecDepth 100000 in
set_option maxHeartbeats 1000000 in
theorem c_impl_Escaped_text (s : ByteArray) (w : World) (h0 : s.size ≤ 1048576) (hp : plainL s.data.toList = true) :
    Calls Tryz.prog 187 #[.string s, .bool false] w fun e w' => e = .returned (.string ⟨(escapedL false s.data.toList).toArray⟩) ∧ Below w.heap.size w w' := by
  have e : escapedL false s.data.toList = escL false s.data.toList := by simp [escapedL, hp]
  rw [e]; clear e
  go_enter Tryz.func187, Tryz.ntmps187
  go_wp2_with (go_at_call 204; refine (c_impl_PlainOk _ _ (by unfold maxLen; omega)).mono ?_; rintro e w' ⟨rfl, rfl⟩)
  go_loopw [14] (fun i wr => ∃ k : Nat, k ≤ s.size ∧ i = .int .i64 k ∧ Lib.IsBuilder 228 5 w'.heap.size w'.heap.size (Lib.byteCells (escL false (s.data.toList.take k))) wr ∧ Below w'.heap.size w' wr) (fun i _ => s.size - (intOf i).toNat)
  case atStart => exact ⟨0, Nat.zero_le _, rfl, Lib.fresh_isBuilder 228 5 _, (Below.refl _ _).alloc (Nat.le_refl _) _⟩
  case round =>
    obtain ⟨k, hk, rfl, hI, hB⟩ := hrel
    by_cases hlt : k < s.size
    · have hsz := hB.size
      have hl := len_esc false s k hk
      have h6 := size_esc false s[k]
      have HI : Hid (Lib.IsBuilder 228 5 w'.heap.size w'.heap.size (Lib.byteCells (escL false (s.data.toList.take k))) wr) := hI
      clear hI
      go_wp2_with (first
        | (go_at_call 212; refine (c__impl_sign__inText s[k] _).mono ?_; rintro e w1 ⟨rfl, hb1⟩)
        | (go_at_call 198; refine (writeString _ _ _ _ _ (isBuilder_below HI.out hb1) (by omega) (by have := hb1.size; omega)).mono ?_; rintro e w2 ⟨rfl, hI2, hb2, _⟩))
      go_roundw
      case rel => exact ⟨k + 1, by omega, by go_num, esc_round hlt hI2, hB.trans ((hb1.mono hsz).trans hb2)⟩
      case measure => simp [intOf]; omega
    · have hk' : s.data.toList.take k = s.data.toList := plainL_full s k hlt
      rw [hk'] at hI
      have hsz := hB.size
      go_wp2_with (go_at_call 200; refine (Tryz.Builder_String_any _ _ _ _ hI hsz).mono ?_; rintro e w2 ⟨rfl, hb2⟩)
      go_ret
      exact ⟨rfl, hB.trans hb2⟩
set_option maxRecDepth 100000 in
set_option maxHeartbeats 1000000 in
theorem c_impl_Escaped_quot (s : ByteArray) (w : World) (h0 : s.size ≤ 1048576) (hp : plainL s.data.toList = true) :
    Calls Tryz.prog 187 #[.string s, .bool true] w fun e w' => e = .returned (.string ⟨(escapedL true s.data.toList).toArray⟩) ∧ Below w.heap.size w w' := by
  have e : escapedL true s.data.toList = escL true s.data.toList := by simp [escapedL, hp]
  rw [e]; clear e
  go_enter Tryz.func187, Tryz.ntmps187
  go_wp2_with (go_at_call 204; refine (c_impl_PlainOk _ _ (by unfold maxLen; omega)).mono ?_; rintro e w' ⟨rfl, rfl⟩)
  go_loopw [14] (fun i wr => ∃ k : Nat, k ≤ s.size ∧ i = .int .i64 k ∧ Lib.IsBuilder 228 5 w'.heap.size w'.heap.size (Lib.byteCells (escL true (s.data.toList.take k))) wr ∧ Below w'.heap.size w' wr) (fun i _ => s.size - (intOf i).toNat)
  case atStart => exact ⟨0, Nat.zero_le _, rfl, Lib.fresh_isBuilder 228 5 _, (Below.refl _ _).alloc (Nat.le_refl _) _⟩
  case round =>
    obtain ⟨k, hk, rfl, hI, hB⟩ := hrel
    by_cases hlt : k < s.size
    · have hsz := hB.size
      have hl := len_esc true s k hk
      have h6 := size_esc true s[k]
      have HI : Hid (Lib.IsBuilder 228 5 w'.heap.size w'.heap.size (Lib.byteCells (escL true (s.data.toList.take k))) wr) := hI
      clear hI
      go_wp2_with (first
        | (go_at_call 213; refine (c__impl_sign__inQuotes s[k] _).mono ?_; rintro e w1 ⟨rfl, hb1⟩)
        | (go_at_call 198; refine (writeString _ _ _ _ _ (isBuilder_below HI.out hb1) (by omega) (by have := hb1.size; omega)).mono ?_; rintro e w2 ⟨rfl, hI2, hb2, _⟩))
      go_roundw
      case rel => exact ⟨k + 1, by omega, by go_num, esc_round hlt hI2, hB.trans ((hb1.mono hsz).trans hb2)⟩
      case measure => simp [intOf]; omega
    · have hk' : s.data.toList.take k = s.data.toList := plainL_full s k hlt
      rw [hk'] at hI
      have hsz := hB.size
      go_wp2_with (go_at_call 200; refine (Tryz.Builder_String_any _ _ _ _ hI hsz).mono ?_; rintro e w2 ⟨rfl, hb2⟩)
      go_ret
      exact ⟨rfl, hB.trans hb2⟩

theorem own_step {q : Bool} {s : ByteArray} {k : Nat} {w1 : World} {B n : Nat} {v : Value} {xs : List Value} {l : List UInt8} (hlt : k < s.size) (hl : escB q s[k] = l) (hn : n = l.length) (hx : xs = Lib.byteCells l)
    (h : w1.ownsRow B 5 1 v ((escL q (s.data.toList.take k)).length + n) (Lib.byteCells (escL q (s.data.toList.take k)) ++ xs)) :
    w1.ownsRow B 5 1 v (escL q (s.data.toList.take (k + 1))).length (Lib.byteCells (escL q (s.data.toList.take (k + 1)))) := by
  rw [take_snocE s k hlt, escL_snoc, byteCells_app, List.length_append, hl, ← hn, ← hx]
  exact h

theorem len_esc' (q : Bool) (s : ByteArray) (k : Nat) (hk : k ≤ s.size) : (escL q (s.data.toList.take k)).length ≤ 6 * s.size := by
  have h := escL_le q (s.data.toList.take k)
  have h2 : (s.data.toList.take k).length ≤ k := List.length_take_le _ _
  omega

theorem info5E : (Tryz.prog.info? 5).map (fun i => (i.zero, i.size, i.bytes)) = some (some (.int .u8 0), 1, 1) := by kernel_rfl

set_option maxRecDepth 100000 in
set_option maxHeartbeats 1000000 in
theorem c_spec_Escaped_no (s : ByteArray) (q : Bool) (w : World) (h0 : s.size ≤ 1048576) (hp : plainL s.data.toList = false) :
    Calls Tryz.prog 99 #[.string s, .bool q] w fun e w' => e = .returned (.string ⟨(escapedL q s.data.toList).toArray⟩) ∧ Below w.heap.size w w' := by
  have e : escapedL q s.data.toList = [] := by simp [escapedL, hp]
  rw [e]
  go_enter Tryz.func99, Tryz.ntmps99
  go_wp2_with (go_at_call 154; refine (c_spec_PlainOk _ _ (by unfold maxLen; omega)).mono ?_; rintro e w' ⟨rfl, rfl⟩)
  go_ret
  exact ⟨rfl, Below.refl _ _⟩

theorem one_cellE (w : World) (v : Value) : ∀ j u, [v][j]? = some u → (w.alloc (.cells #[v] 5)).cell? ((⟨w.heap.size, 0, none⟩ : Addr).add j) = some u := by
  intro j u hj
  match j, hj with
  | 0, hj => simp at hj; subst hj; simp [Addr.add]

theorem one_one (n : Int) : ∀ u ∈ [Value.int .u8 n], u.oneCell' = true := by
  intro u hu; simp at hu; subst hu; rfl

set_option maxRecDepth 100000 in
set_option maxHeartbeats 4000000 in
theorem c_spec_Escaped_text (s : ByteArray) (w : World) (h0 : s.size ≤ 1048576) (hp : plainL s.data.toList = true) :
    Calls Tryz.prog 99 #[.string s, .bool false] w fun e w' => e = .returned (.string ⟨(escapedL false s.data.toList).toArray⟩) ∧ Below w.heap.size w w' := by
  have e : escapedL false s.data.toList = escL false s.data.toList := by simp [escapedL, hp]
  rw [e]; clear e
  obtain ⟨i0, hi, hz0, hz1, hz2⟩ := info_parts info5E
  go_enter Tryz.func99, Tryz.ntmps99
  go_wp2_with (go_at_call 154; refine (c_spec_PlainOk _ _ (by unfold maxLen; omega)).mono ?_; rintro e w' ⟨rfl, rfl⟩)
  clear hp
  go_loopw [5, 6] (fun v i wr => ∃ k : Nat, k ≤ s.size ∧ i = .int .i64 k ∧ wr.ownsRow w'.heap.size 5 1 v (escL false (s.data.toList.take k)).length (Lib.byteCells (escL false (s.data.toList.take k))) ∧ Below w'.heap.size w' wr) (fun _ i _ => s.size - (intOf i).toNat)
  case atStart => exact ⟨0, Nat.zero_le _, rfl, World.ownsRow_made _ _ _ (Nat.le_refl _) (by decide) rfl, (Below.refl _ _).alloc (Nat.le_refl _) _⟩
  case round =>
    obtain ⟨k, hk, rfl, hown, hB⟩ := hrel
    have hsz := hB.size
    by_cases hlt : k < s.size
    · have hl := len_esc' false s k hk
      have cases : (s[k].toNat : Int) = 38 ∨ (s[k].toNat : Int) = 60 ∨ (s[k].toNat : Int) = 62 ∨ (s[k].toNat : Int) = 34 ∨ (¬ (s[k].toNat : Int) = 38 ∧ ¬ (s[k].toNat : Int) = 60 ∧ ¬ (s[k].toNat : Int) = 62 ∧ ¬ (s[k].toNat : Int) = 34) := by omega
      rcases cases with h | h | h | h | h
      · have g0 : (s[k].toNat : Int) ≤ 38 := by omega
        have g1 : (38 : Int) ≤ s[k].toNat := by omega
        have he : escB false s[k] = [38, 97, 109, 112, 59] := by unfold escB; simp [show s[k].toNat = 38 by omega]
        have HE : Hid (escB false s[k] = [38, 97, 109, 112, 59]) := he
        clear he h
        go_wp2_with (at_builtin; refine Lib.wpList_append_own_string _ rfl _ _ 22 9 rfl w'.heap.size 5 i0 Tryz.underlying22 Tryz.underlying9 hi hz0 hz1 hz2 _ _ _ rfl hown ⟨#[38, 97, 109, 112, 59]⟩ rfl (show _ + 5 ≤ _ by unfold maxLen; omega) (show _ + 5 ≤ _ by omega) hsz ?_)
        intro v' w1 hown' hgrow _
        have R := own_step (q := false) hlt HE.out rfl rfl hown'
        have hB1 := hB.grown hgrow hsz (fun k hk => (hown.lt k hk).1)
        clear hown' hgrow hown
        go_wp2
        go_roundw
        case rel => exact ⟨k + 1, by omega, by go_num, R, hB1⟩
        case measure => simp [intOf]; omega
      · have g0 : (s[k].toNat : Int) ≤ 60 := by omega
        have g1 : (60 : Int) ≤ s[k].toNat := by omega
        have he : escB false s[k] = [38, 108, 116, 59] := by unfold escB; simp [show s[k].toNat = 60 by omega]
        have HE : Hid (escB false s[k] = [38, 108, 116, 59]) := he
        clear he h
        go_wp2_with (at_builtin; refine Lib.wpList_append_own_string _ rfl _ _ 22 9 rfl w'.heap.size 5 i0 Tryz.underlying22 Tryz.underlying9 hi hz0 hz1 hz2 _ _ _ rfl hown ⟨#[38, 108, 116, 59]⟩ rfl (show _ + 4 ≤ _ by unfold maxLen; omega) (show _ + 4 ≤ _ by omega) hsz ?_)
        intro v' w1 hown' hgrow _
        have R := own_step (q := false) hlt HE.out rfl rfl hown'
        have hB1 := hB.grown hgrow hsz (fun k hk => (hown.lt k hk).1)
        clear hown' hgrow hown
        go_wp2
        go_roundw
        case rel => exact ⟨k + 1, by omega, by go_num, R, hB1⟩
        case measure => simp [intOf]; omega
      · have g0 : (s[k].toNat : Int) ≤ 62 := by omega
        have g1 : (62 : Int) ≤ s[k].toNat := by omega
        have he : escB false s[k] = [38, 103, 116, 59] := by unfold escB; simp [show s[k].toNat = 62 by omega]
        have HE : Hid (escB false s[k] = [38, 103, 116, 59]) := he
        clear he h
        go_wp2_with (at_builtin; refine Lib.wpList_append_own_string _ rfl _ _ 22 9 rfl w'.heap.size 5 i0 Tryz.underlying22 Tryz.underlying9 hi hz0 hz1 hz2 _ _ _ rfl hown ⟨#[38, 103, 116, 59]⟩ rfl (show _ + 4 ≤ _ by unfold maxLen; omega) (show _ + 4 ≤ _ by omega) hsz ?_)
        intro v' w1 hown' hgrow _
        have R := own_step (q := false) hlt HE.out rfl rfl hown'
        have hB1 := hB.grown hgrow hsz (fun k hk => (hown.lt k hk).1)
        clear hown' hgrow hown
        go_wp2
        go_roundw
        case rel => exact ⟨k + 1, by omega, by go_num, R, hB1⟩
        case measure => simp [intOf]; omega
      · have g0 : (s[k].toNat : Int) ≤ 34 := by omega
        have g1 : (34 : Int) ≤ s[k].toNat := by omega
        have he : escB false s[k] = [s[k]] := by unfold escB; simp [show s[k].toNat = 34 by omega]
        have HN : Hid ((s[k].toNat : Int) = 34) := h
        have HE : Hid (escB false s[k] = [s[k]]) := he
        clear he h
        go_wp2_with (at_builtin; refine wpList_append_own _ rfl _ _ 22 rfl w'.heap.size 5 i0 (.int .u8 0) 1 1 Tryz.underlying22 hi hz0 hz1 hz2 rfl (by decide) _ _ _ rfl (hown.alloc _) ⟨wr.heap.size, 0, none⟩ 1 1 [.int .u8 34] rfl rfl (one_cellE _ _) (one_one _) (by unfold maxLen; omega) (by omega) (by simp; omega) ?_)
        intro v' w1 hown' hgrow _
        have R := own_step (q := false) hlt HE.out rfl (by simp [Lib.byteCells, HN.out]) hown'
        have hB1 := (hB.alloc hsz _).grown hgrow (by simp; omega) (fun k hk => (hown.lt k hk).1)
        clear hown' hgrow hown
        go_wp2
        go_roundw
        case rel => exact ⟨k + 1, by omega, by go_num, R, hB1⟩
        case measure => simp [intOf]; omega
      · obtain ⟨x0, x1, x2, x3⟩ := h
        have he : escB false s[k] = [s[k]] := by unfold escB; simp [show ¬ s[k].toNat = 38 by omega, show ¬ s[k].toNat = 60 by omega, show ¬ s[k].toNat = 62 by omega, show ¬ s[k].toNat = 34 by omega]
        have HE : Hid (escB false s[k] = [s[k]]) := he
        clear he
        go_wp2_with (at_builtin; refine wpList_append_own _ rfl _ _ 22 rfl w'.heap.size 5 i0 (.int .u8 0) 1 1 Tryz.underlying22 hi hz0 hz1 hz2 rfl (by decide) _ _ _ rfl (hown.alloc _) ⟨wr.heap.size, 0, none⟩ 1 1 [.int .u8 s[k].toNat] rfl rfl (one_cellE _ _) (one_one _) (by unfold maxLen; omega) (by omega) (by simp; omega) ?_)
        intro v' w1 hown' hgrow _
        have R := own_step (q := false) hlt HE.out rfl rfl hown'
        have hB1 := (hB.alloc hsz _).grown hgrow (by simp; omega) (fun k hk => (hown.lt k hk).1)
        clear hown' hgrow hown
        go_wp2
        go_roundw
        case rel => exact ⟨k + 1, by omega, by go_num, R, hB1⟩
        case measure => simp [intOf]; omega
    · have hk' : s.data.toList.take k = s.data.toList := plainL_full s k hlt
      rw [hk'] at hown
      have hr := run_str_own (P := Tryz.prog) (src := 22) (dst := 9) Tryz.underlying22 Tryz.underlying5 Tryz.underlying9 hown
      clear hown hk'
      go_wp2
      go_ret
      exact ⟨rfl, hB⟩

set_option maxRecDepth 100000 in
set_option maxHeartbeats 4000000 in
theorem c_spec_Escaped_quot (s : ByteArray) (w : World) (h0 : s.size ≤ 1048576) (hp : plainL s.data.toList = true) :
    Calls Tryz.prog 99 #[.string s, .bool true] w fun e w' => e = .returned (.string ⟨(escapedL true s.data.toList).toArray⟩) ∧ Below w.heap.size w w' := by
  have e : escapedL true s.data.toList = escL true s.data.toList := by simp [escapedL, hp]
  rw [e]; clear e
  obtain ⟨i0, hi, hz0, hz1, hz2⟩ := info_parts info5E
  go_enter Tryz.func99, Tryz.ntmps99
  go_wp2_with (go_at_call 154; refine (c_spec_PlainOk _ _ (by unfold maxLen; omega)).mono ?_; rintro e w' ⟨rfl, rfl⟩)
  clear hp
  go_loopw [5, 6] (fun v i wr => ∃ k : Nat, k ≤ s.size ∧ i = .int .i64 k ∧ wr.ownsRow w'.heap.size 5 1 v (escL true (s.data.toList.take k)).length (Lib.byteCells (escL true (s.data.toList.take k))) ∧ Below w'.heap.size w' wr) (fun _ i _ => s.size - (intOf i).toNat)
  case atStart => exact ⟨0, Nat.zero_le _, rfl, World.ownsRow_made _ _ _ (Nat.le_refl _) (by decide) rfl, (Below.refl _ _).alloc (Nat.le_refl _) _⟩
  case round =>
    obtain ⟨k, hk, rfl, hown, hB⟩ := hrel
    have hsz := hB.size
    by_cases hlt : k < s.size
    · have hl := len_esc' true s k hk
      have cases : (s[k].toNat : Int) = 38 ∨ (s[k].toNat : Int) = 60 ∨ (s[k].toNat : Int) = 62 ∨ (s[k].toNat : Int) = 34 ∨ (¬ (s[k].toNat : Int) = 38 ∧ ¬ (s[k].toNat : Int) = 60 ∧ ¬ (s[k].toNat : Int) = 62 ∧ ¬ (s[k].toNat : Int) = 34) := by omega
      rcases cases with h | h | h | h | h
      · have g0 : (s[k].toNat : Int) ≤ 38 := by omega
        have g1 : (38 : Int) ≤ s[k].toNat := by omega
        have he : escB true s[k] = [38, 97, 109, 112, 59] := by unfold escB; simp [show s[k].toNat = 38 by omega]
        have HE : Hid (escB true s[k] = [38, 97, 109, 112, 59]) := he
        clear he h
        go_wp2_with (at_builtin; refine Lib.wpList_append_own_string _ rfl _ _ 22 9 rfl w'.heap.size 5 i0 Tryz.underlying22 Tryz.underlying9 hi hz0 hz1 hz2 _ _ _ rfl hown ⟨#[38, 97, 109, 112, 59]⟩ rfl (show _ + 5 ≤ _ by unfold maxLen; omega) (show _ + 5 ≤ _ by omega) hsz ?_)
        intro v' w1 hown' hgrow _
        have R := own_step (q := true) hlt HE.out rfl rfl hown'
        have hB1 := hB.grown hgrow hsz (fun k hk => (hown.lt k hk).1)
        clear hown' hgrow hown
        go_wp2
        go_roundw
        case rel => exact ⟨k + 1, by omega, by go_num, R, hB1⟩
        case measure => simp [intOf]; omega
      · have g0 : (s[k].toNat : Int) ≤ 60 := by omega
        have g1 : (60 : Int) ≤ s[k].toNat := by omega
        have he : escB true s[k] = [38, 108, 116, 59] := by unfold escB; simp [show s[k].toNat = 60 by omega]
        have HE : Hid (escB true s[k] = [38, 108, 116, 59]) := he
        clear he h
        go_wp2_with (at_builtin; refine Lib.wpList_append_own_string _ rfl _ _ 22 9 rfl w'.heap.size 5 i0 Tryz.underlying22 Tryz.underlying9 hi hz0 hz1 hz2 _ _ _ rfl hown ⟨#[38, 108, 116, 59]⟩ rfl (show _ + 4 ≤ _ by unfold maxLen; omega) (show _ + 4 ≤ _ by omega) hsz ?_)
        intro v' w1 hown' hgrow _
        have R := own_step (q := true) hlt HE.out rfl rfl hown'
        have hB1 := hB.grown hgrow hsz (fun k hk => (hown.lt k hk).1)
        clear hown' hgrow hown
        go_wp2
        go_roundw
        case rel => exact ⟨k + 1, by omega, by go_num, R, hB1⟩
        case measure => simp [intOf]; omega
      · have g0 : (s[k].toNat : Int) ≤ 62 := by omega
        have g1 : (62 : Int) ≤ s[k].toNat := by omega
        have he : escB true s[k] = [s[k]] := by unfold escB; simp [show s[k].toNat = 62 by omega]
        have HN : Hid ((s[k].toNat : Int) = 62) := h
        have HE : Hid (escB true s[k] = [s[k]]) := he
        clear he h
        go_wp2_with (at_builtin; refine wpList_append_own _ rfl _ _ 22 rfl w'.heap.size 5 i0 (.int .u8 0) 1 1 Tryz.underlying22 hi hz0 hz1 hz2 rfl (by decide) _ _ _ rfl (hown.alloc _) ⟨wr.heap.size, 0, none⟩ 1 1 [.int .u8 62] rfl rfl (one_cellE _ _) (one_one _) (by unfold maxLen; omega) (by omega) (by simp; omega) ?_)
        intro v' w1 hown' hgrow _
        have R := own_step (q := true) hlt HE.out rfl (by simp [Lib.byteCells, HN.out]) hown'
        have hB1 := (hB.alloc hsz _).grown hgrow (by simp; omega) (fun k hk => (hown.lt k hk).1)
        clear hown' hgrow hown
        go_wp2
        go_roundw
        case rel => exact ⟨k + 1, by omega, by go_num, R, hB1⟩
        case measure => simp [intOf]; omega
      · have g0 : (s[k].toNat : Int) ≤ 34 := by omega
        have g1 : (34 : Int) ≤ s[k].toNat := by omega
        have he : escB true s[k] = [38, 113, 117, 111, 116, 59] := by unfold escB; simp [show s[k].toNat = 34 by omega]
        have HE : Hid (escB true s[k] = [38, 113, 117, 111, 116, 59]) := he
        clear he h
        go_wp2_with (at_builtin; refine Lib.wpList_append_own_string _ rfl _ _ 22 9 rfl w'.heap.size 5 i0 Tryz.underlying22 Tryz.underlying9 hi hz0 hz1 hz2 _ _ _ rfl hown ⟨#[38, 113, 117, 111, 116, 59]⟩ rfl (show _ + 6 ≤ _ by unfold maxLen; omega) (show _ + 6 ≤ _ by omega) hsz ?_)
        intro v' w1 hown' hgrow _
        have R := own_step (q := true) hlt HE.out rfl rfl hown'
        have hB1 := hB.grown hgrow hsz (fun k hk => (hown.lt k hk).1)
        clear hown' hgrow hown
        go_wp2
        go_roundw
        case rel => exact ⟨k + 1, by omega, by go_num, R, hB1⟩
        case measure => simp [intOf]; omega
      · obtain ⟨x0, x1, x2, x3⟩ := h
        have he : escB true s[k] = [s[k]] := by unfold escB; simp [show ¬ s[k].toNat = 38 by omega, show ¬ s[k].toNat = 60 by omega, show ¬ s[k].toNat = 62 by omega, show ¬ s[k].toNat = 34 by omega]
        have HE : Hid (escB true s[k] = [s[k]]) := he
        clear he
        go_wp2_with (at_builtin; refine wpList_append_own _ rfl _ _ 22 rfl w'.heap.size 5 i0 (.int .u8 0) 1 1 Tryz.underlying22 hi hz0 hz1 hz2 rfl (by decide) _ _ _ rfl (hown.alloc _) ⟨wr.heap.size, 0, none⟩ 1 1 [.int .u8 s[k].toNat] rfl rfl (one_cellE _ _) (one_one _) (by unfold maxLen; omega) (by omega) (by simp; omega) ?_)
        intro v' w1 hown' hgrow _
        have R := own_step (q := true) hlt HE.out rfl rfl hown'
        have hB1 := (hB.alloc hsz _).grown hgrow (by simp; omega) (fun k hk => (hown.lt k hk).1)
        clear hown' hgrow hown
        go_wp2
        go_roundw
        case rel => exact ⟨k + 1, by omega, by go_num, R, hB1⟩
        case measure => simp [intOf]; omega
    · have hk' : s.data.toList.take k = s.data.toList := plainL_full s k hlt
      rw [hk'] at hown
      have hr := run_str_own (P := Tryz.prog) (src := 22) (dst := 9) Tryz.underlying22 Tryz.underlying5 Tryz.underlying9 hown
      clear hown hk'
      go_wp2
      go_ret
      exact ⟨rfl, hB⟩

theorem c_spec_Escaped (s : ByteArray) (q : Bool) (w : World) (h0 : s.size ≤ 1048576) :
    Calls Tryz.prog 99 #[.string s, .bool q] w fun e w' => e = .returned (.string ⟨(escapedL q s.data.toList).toArray⟩) ∧ Below w.heap.size w w' := by
  cases hp : plainL s.data.toList
  · exact c_spec_Escaped_no s q w h0 hp
  · cases q
    · exact c_spec_Escaped_text s w h0 hp
    · exact c_spec_Escaped_quot s w h0 hp

theorem c_impl_Escaped (s : ByteArray) (q : Bool) (w : World) (h0 : s.size ≤ 1048576) :
    Calls Tryz.prog 187 #[.string s, .bool q] w fun e w' => e = .returned (.string ⟨(escapedL q s.data.toList).toArray⟩) ∧ Below w.heap.size w w' := by
  cases hp : plainL s.data.toList
  · exact c_impl_Escaped_no s q w h0 hp
  · cases q
    · exact c_impl_Escaped_text s w h0 hp
    · exact c_impl_Escaped_quot s w h0 hp

end Go.Proofs.YtnbpcgeojmikoaaGreatDoor
