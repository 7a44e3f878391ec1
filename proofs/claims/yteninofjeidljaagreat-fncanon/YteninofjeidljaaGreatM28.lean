/- In whatever order attrs stand, and with a declaration that nobody needs, it is written the same (mathematics alone). The tree of what is written in the one way is written the same (mathematics alone). What is written in the one way, read again, is written the same (mathematics alone). A tree without the nodes from a up to h (mathematics alone). -/
import Derived.Test.YteninofjeidljaaGreatM25
import Derived.Test.YteninofjeidljaaGreatM27
import Derived.Test.YteninofjeidljaaGreatM23
namespace Go.Proofs.YteninofjeidljaaGreat
open Go.RowKit
set_option linter.unusedVariables false

theorem ins_perm {α : Type} (lt : α → α → Bool) (l : List α) (x : α) : (insG lt l x).Perm (x :: l) := by
  obtain ⟨P, Q, rfl, e, _, _⟩ := ins_parts lt l x
  rw [e]
  exact List.perm_middle

theorem sort_perm {α : Type} (lt : α → α → Bool) (l : List α) : (sortG lt l).Perm l := by
  unfold sortG
  have key : ∀ (l m : List α), (l.foldl (insG lt) m).Perm (m ++ l) := by
    intro l
    induction l with
    | nil => intro m; rw [List.append_nil]; exact List.Perm.refl _
    | cons x l ih =>
      intro m
      rw [List.foldl_cons]
      refine (ih _).trans ?_
      refine ((ins_perm lt m x).append_right l).trans ?_
      exact List.perm_middle.symm
  exact key l []

theorem strict_sameG {α : Type} {lt : α → α → Bool} (ho : OrdB lt) : ∀ {l m : List α}, l.Pairwise (fun a b => lt a b = true) → m.Pairwise (fun a b => lt a b = true) → (∀ y, y ∈ l ↔ y ∈ m) → l = m
  | [], [], _, _, _ => rfl
  | [], y :: m, _, _, h => absurd ((h y).2 (by simp)) List.not_mem_nil
  | x :: l, [], _, _, h => absurd ((h x).1 (by simp)) List.not_mem_nil
  | x :: l, y :: m, hl, hm, h => by
    obtain ⟨a, b⟩ := List.pairwise_cons.1 hl
    obtain ⟨c, d⟩ := List.pairwise_cons.1 hm
    have no : ∀ z, lt z z = true → False := fun z hz => by have := ho.asym z z hz; rw [hz] at this; cases this
    have e : x = y := by
      rcases List.mem_cons.1 ((h x).1 (by simp)) with q | q
      · exact q
      · rcases List.mem_cons.1 ((h y).2 (by simp)) with r | r
        · exact r.symm
        · have h1 := a y r
          have h2 := ho.asym _ _ h1
          rw [c x q] at h2
          cases h2
    subst e
    rw [strict_sameG ho b d (fun z => ?_)]
    constructor
    · intro hz
      rcases List.mem_cons.1 ((h z).1 (by simp [hz])) with q | q
      · subst q; exact (no _ (a z hz)).elim
      · exact q
    · intro hz
      rcases List.mem_cons.1 ((h z).2 (by simp [hz])) with q | q
      · subst q; exact (no _ (c z hz)).elim
      · exact q

theorem sort_rev {α : Type} {lt : α → α → Bool} (ho : OrdB lt) {l : List α} (hn : l.Nodup) (ht : ∀ x ∈ l, ∀ y ∈ l, lt x y = false → lt y x = false → x = y) : sortG lt l.reverse = sortG lt l := by
  have strict : ∀ m : List α, m.Nodup → (∀ z, z ∈ m ↔ z ∈ l) → (sortG lt m).Pairwise (fun a b => lt a b = true) := by
    intro m hm hml
    have h1 := (sort_all ho m).1
    have h2 : (sortG lt m).Nodup := (sort_perm lt m).nodup_iff.2 hm
    have h3 := h1.and h2
    refine h3.imp_of_mem fun {a b} ha hb hab => ?_
    have ma := (hml a).1 ((sort_perm lt m).mem_iff.1 ha)
    have mb := (hml b).1 ((sort_perm lt m).mem_iff.1 hb)
    cases q : lt a b with
    | true => rfl
    | false => exact absurd (ht a ma b mb q hab.1) hab.2
  refine strict_sameG ho (strict _ ((List.reverse_perm l).nodup_iff.2 hn) (fun z => List.mem_reverse)) (strict _ hn (fun z => Iff.rfl)) fun y => ?_
  rw [(sort_perm lt _).mem_iff, (sort_perm lt _).mem_iff, List.mem_reverse]

theorem attrs_iff (l : List At) : AttrsOk l ↔ l.length ≤ 6 ∧ (∀ x ∈ l, atOk x) ∧ l.Pairwise fun a b => ¬ a.name = b.name := by
  unfold AttrsOk AtsOk
  constructor
  · rintro ⟨h1, h2, h3⟩
    refine ⟨h1, fun x hx => ?_, List.pairwise_iff_getElem.2 fun i j hi hj hij => h3 j i hj hij hj⟩
    obtain ⟨j, hj, rfl⟩ := List.getElem_of_mem hx
    exact h2 j hj hj
  · rintro ⟨h1, h2, h3⟩
    exact ⟨h1, fun j hj _ => h2 _ (List.getElem_mem hj), fun i j hi hj _ => List.pairwise_iff_getElem.1 h3 j i (by omega) hi hj⟩

/-- What a name with a prefix is made of. -/
theorem name_parts {s : ByteArray} (h : nameL s.data.toList = true) : (colonAt s.data.toList = none ∧ preS s = ⟨#[]⟩ ∧ locS s = s) ∨ (¬ (preS s).size = 0 ∧ ¬ (locS s).size = 0 ∧ s.data.toList = (preS s).data.toList ++ 58 :: (locS s).data.toList) := by
  unfold preS locS partP partL
  rw [if_pos h, if_pos h]
  unfold nameL at h
  unfold preL locL at h ⊢
  cases hc : colonAt s.data.toList with
  | none => exact .inl ⟨rfl, rfl, rfl⟩
  | some a =>
    rw [hc] at h
    simp only [Bool.and_eq_true] at h
    have one : ∀ l : List UInt8, lettersL l = true → ¬ (⟨l.toArray⟩ : ByteArray).size = 0 := fun l hl => by
      unfold lettersL at hl
      simp only [Bool.and_eq_true, decide_eq_true_eq] at hl
      rw [size_mk]
      omega
    refine .inr ⟨one _ h.1, one _ h.2, ?_⟩
    unfold colonAt at hc
    obtain ⟨ha, hb, _⟩ := List.findIdx?_eq_some_iff_getElem.1 hc
    have e : s.data.toList[a] = 58 := by
      have : s.data.toList[a].toNat = 58 := by simpa using hb
      have h2 : s.data.toList[a] = UInt8.ofNat s.data.toList[a].toNat := by simp
      rw [h2, this]
      rfl
    show s.data.toList = s.data.toList.take a ++ 58 :: s.data.toList.drop (a + 1)
    rw [← e, ← List.drop_eq_getElem_cons ha, List.take_append_drop]

theorem ba_ext {a b : ByteArray} (h : a.data.toList = b.data.toList) : a = b := by
  apply ByteArray.ext
  exact Array.toList_inj.1 h

theorem decl_name {x y : At} {p : ByteArray} (hx : nameL x.name.data.toList = true) (hy : nameL y.name.data.toList = true) (dx : declF x = some p) (dy : declF y = some p) : x.name = y.name := by
  have ns0 : ¬ nsS.size = 0 := by decide
  have one : ∀ z : At, nameL z.name.data.toList = true → declF z = some p → (z.name = nsS ∧ p = ⟨#[]⟩) ∨ (preS z.name = nsS ∧ locS z.name = p ∧ ¬ p.size = 0 ∧ z.name.data.toList = nsS.data.toList ++ 58 :: p.data.toList) := by
    intro z hz dz
    unfold declF at dz
    split at dz
    · rename_i h1
      injection dz with dz
      exact .inl ⟨h1, dz.symm⟩
    · split at dz
      · rename_i h1 h2
        injection dz with dz
        rcases name_parts hz with ⟨_, q, _⟩ | ⟨q1, q2, q3⟩
        · rw [h2] at q; exact absurd q (by decide)
        · rw [h2, dz] at q3
          rw [dz] at q2
          exact .inr ⟨h2, dz, q2, q3⟩
      · cases dz
  rcases one x hx dx with ⟨a1, a2⟩ | ⟨a1, a2, a3, a4⟩
  · rcases one y hy dy with ⟨b1, _⟩ | ⟨_, _, b3, _⟩
    · rw [a1, b1]
    · rw [a2] at b3; exact absurd rfl b3
  · rcases one y hy dy with ⟨_, b2⟩ | ⟨_, _, _, b4⟩
    · rw [b2] at a3; exact absurd rfl a3
    · exact ba_ext (by rw [a4, b4])

def zzS : ByteArray := ⟨#[122, 122, 122]⟩

def zzA : At := ⟨⟨#[110, 115, 58, 122, 122, 122]⟩, ⟨#[110, 111, 110, 101]⟩⟩

theorem zz_decl : declF zzA = some zzS := nmD_decl (p := zzS) (.inr (by decide +kernel)) _

theorem zz_ok : atOk zzA := ⟨by decide +kernel, by decide +kernel, by decide⟩

theorem zz_right : rightB zzA = true := by
  unfold rightB
  rw [zz_decl]
  decide +kernel

theorem six_zz {x : At} (hx : nameL x.name.data.toList = true) (d : declF x = some zzS) : x.name.size = 6 := by
  have := decl_name hx zz_ok.1 d zz_decl
  rw [this]
  rfl

/-- The same tree, with all attrs turned round, and here and there one more. -/
structure Turned (ts us : List Tk) : Prop where
  len : us.length = ts.length
  at_ : ∀ j (h : j < ts.length), ∃ z : Bool, us[j]? = some ⟨ts[j].kind, ts[j].name, ts[j].attrs.reverse ++ (if z then [zzA] else []), ts[j].text⟩ ∧ (z = true → ts[j].attrs.length < 6 ∧ ¬ ts[j].name.size = 0)

def NoSix (ts : List Tk) : Prop := ∀ t ∈ ts, ∀ x ∈ t.attrs, ¬ x.name.size = 6

section
variable {ts us : List Tk}

theorem Turned.par (h : Turned ts us) (j : Nat) : parI us j = parI ts j := by
  unfold parI
  by_cases hj : j < ts.length
  · obtain ⟨z, e, _⟩ := h.at_ j hj
    rw [e, List.getElem?_eq_getElem hj]
  · rw [List.getElem?_eq_none (by rw [h.len]; omega), List.getElem?_eq_none (by omega)]

theorem Turned.chain (h : Turned ts us) : ∀ i, chainF us i = chainF ts i
  | 0 => rfl
  | i + 1 => by
    show i :: (chainF us i).dropWhile _ = i :: (chainF ts i).dropWhile _
    rw [h.chain i, h.par i]

theorem Turned.get (h : Turned ts us) {j : Nat} (hj : j < ts.length) (hu : j < us.length) : us[j].kind = ts[j].kind ∧ us[j].name = ts[j].name ∧ us[j].text = ts[j].text ∧ ∃ z : Bool, us[j].attrs = ts[j].attrs.reverse ++ (if z then [zzA] else []) ∧ (z = true → ts[j].attrs.length < 6 ∧ ¬ ts[j].name.size = 0) := by
  obtain ⟨z, e, hz⟩ := h.at_ j hj
  rw [List.getElem?_eq_getElem hu] at e
  injection e with e
  rw [e]
  exact ⟨rfl, rfl, rfl, z, rfl, hz⟩

theorem Turned.el (h : Turned ts us) {j : Nat} (he : elN ts j) : elN us j := by
  obtain ⟨hj, hn⟩ := he
  have hu : j < us.length := by rw [h.len]; exact hj
  exact ⟨hu, by rw [(h.get hj hu).2.1]; exact hn⟩

theorem ats_of (hT : TreeP ts) {j : Nat} (hj : j < ts.length) : AttrsOk ts[j].attrs := by
  obtain ⟨⟨_, n1⟩, _⟩ := hT.2.2.2.2 j hj
  by_cases hn : ts[j].name.size = 0
  · rw [nodeB_tx hn] at n1
    simp only [Bool.and_eq_true, decide_eq_true_eq] at n1
    have : ts[j].attrs = [] := List.length_eq_zero_iff.1 n1.1
    rw [this]
    exact (attrs_iff []).2 ⟨by simp, fun x hx => absurd hx List.not_mem_nil, List.Pairwise.nil⟩
  · rw [nodeB_el hn] at n1
    simp only [Bool.and_eq_true] at n1
    have h2 := n1.2.1
    unfold attrsB at h2
    simpa using h2

theorem turn_ok {l : List At} (h : AttrsOk l) (h6 : ∀ x ∈ l, ¬ x.name.size = 6) {z : Bool} (hz : z = true → l.length < 6) : AttrsOk (l.reverse ++ (if z then [zzA] else [])) := by
  obtain ⟨a, b, c⟩ := (attrs_iff l).1 h
  have hr : l.reverse.Pairwise fun a b => ¬ a.name = b.name := List.pairwise_reverse.2 (c.imp fun h e => h e.symm)
  cases z with
  | false =>
    rw [if_neg Bool.false_ne_true, List.append_nil]
    exact (attrs_iff _).2 ⟨by rw [List.length_reverse]; exact a, fun x hx => b x (List.mem_reverse.1 hx), hr⟩
  | true =>
    rw [if_pos rfl]
    refine (attrs_iff _).2 ⟨by rw [List.length_append, List.length_reverse]; have := hz rfl; show _ + 1 ≤ 6; omega, fun x hx => ?_, List.pairwise_append.2 ⟨hr, List.pairwise_singleton _ _, fun x hx y hy => ?_⟩⟩
    · rcases List.mem_append.1 hx with q | q
      · exact b x (List.mem_reverse.1 q)
      · rw [List.mem_singleton.1 q]; exact zz_ok
    · rw [List.mem_singleton.1 hy]
      intro e
      exact h6 x (List.mem_reverse.1 hx) (by rw [e]; rfl)

theorem turn_tree (hT : TreeP ts) (h6 : NoSix ts) (h : Turned ts us) : TreeP us := by
  refine ⟨by rw [h.len]; exact hT.1, by rw [h.len]; exact hT.2.1, by rw [h.par]; exact hT.2.2.1, h.el hT.2.2.2.1, fun i hi => ?_⟩
  have hi' : i < ts.length := by rw [h.len] at hi; exact hi
  obtain ⟨⟨_, n1⟩, n2, n3, n4⟩ := hT.2.2.2.2 i hi'
  obtain ⟨g1, g2, g3, z, g4, g5⟩ := h.get hi' hi
  refine ⟨⟨hi, ?_⟩, ?_, by rw [h.chain]; exact n3, ?_⟩
  · by_cases hn : ts[i].name.size = 0
    · rw [nodeB_tx hn] at n1
      rw [nodeB_tx (by rw [g2]; exact hn), g3]
      simp only [Bool.and_eq_true, decide_eq_true_eq] at n1 ⊢
      refine ⟨?_, n1.2⟩
      have e0 : ts[i].attrs = [] := List.length_eq_zero_iff.1 n1.1
      cases z with
      | false => rw [g4, e0]; rfl
      | true => exact absurd hn (g5 rfl).2
    · rw [nodeB_el hn] at n1
      rw [nodeB_el (by rw [g2]; exact hn), g2, g3, g4]
      simp only [Bool.and_eq_true] at n1 ⊢
      exact ⟨n1.1, attrsB_t (turn_ok (ats_of hT hi') (h6 _ (List.getElem_mem hi')) (fun e => (g5 e).1)), n1.2.2⟩
  · rcases n2 with n2 | ⟨p, p1, p2, p3⟩
    · exact .inl n2
    · exact .inr ⟨p, by rw [h.chain]; exact p1, by rw [h.par]; exact p2, h.el p3⟩
  · rintro ⟨k1, k2, k3, k4, k5⟩
    have a1 := h.get hi' hi
    have a2 := h.get (j := i - 1) (by omega) (by omega)
    exact n4 ⟨hi', k2, by rw [← a1.2.1]; exact k3, by rw [← a2.2.1]; exact k4, by rw [← a2.1, ← a1.1]; exact k5⟩

/-- Turned round they declare the same. -/
theorem find_turn {l : List At} (h : AttrsOk l) {z : Bool} {p : ByteArray} (hp : ¬ p = zzS) : (l.reverse ++ (if z then [zzA] else [])).find? (declB p) = l.find? (declB p) := by
  obtain ⟨_, b, c⟩ := (attrs_iff l).1 h
  have hzz : declB p zzA = false := by unfold declB; rw [zz_decl]; simp [Ne.symm hp]
  have e1 : (if z then [zzA] else []).find? (declB p) = none := by
    cases z with
    | false => rfl
    | true => rw [if_pos rfl, List.find?_cons, hzz]; rfl
  rw [List.find?_append, e1, Option.or_none]
  cases hf : l.find? (declB p) with
  | none =>
    rw [List.find?_eq_none] at hf ⊢
    exact fun x hx => hf x (List.mem_reverse.1 hx)
  | some x =>
    have hx := List.mem_of_find?_eq_some hf
    have dx := List.find?_some hf
    cases hg : l.reverse.find? (declB p) with
    | none =>
      rw [List.find?_eq_none] at hg
      exact absurd dx (hg x (List.mem_reverse.2 hx))
    | some y =>
      have hy := List.mem_reverse.1 (List.mem_of_find?_eq_some hg)
      have dy := List.find?_some hg
      unfold declB at dx dy
      rw [decide_eq_true_eq] at dx dy
      have en := decl_name (b x hx).1 (b y hy).1 dx dy
      rw [same_name c hx hy en]
where
  same_name {l : List At} (c : l.Pairwise fun a b => ¬ a.name = b.name) {x y : At} (hx : x ∈ l) (hy : y ∈ l) (e : x.name = y.name) : y = x := by
    obtain ⟨i, hi, rfl⟩ := List.getElem_of_mem hx
    obtain ⟨j, hj, rfl⟩ := List.getElem_of_mem hy
    rcases Nat.lt_trichotomy i j with q | q | q
    · exact absurd e (List.pairwise_iff_getElem.1 c i j hi hj q)
    · subst q; rfl
    · exact absurd e.symm (List.pairwise_iff_getElem.1 c j i hj hi q)

theorem all_turn {l : List At} {z : Bool} : (l.reverse ++ (if z then [zzA] else [])).all rightB = l.all rightB := by
  rw [List.all_append, List.all_reverse]
  cases z with
  | false => simp
  | true => simp [zz_right]

theorem Turned.row (h : Turned ts us) {j : Nat} (hj : j < ts.length) : ∃ z : Bool, us[j]? = some ⟨ts[j].kind, ts[j].name, ts[j].attrs.reverse ++ (if z then [zzA] else []), ts[j].text⟩ := by
  obtain ⟨z, e, _⟩ := h.at_ j hj
  exact ⟨z, e⟩

theorem Turned.up (h : Turned ts us) (hT : TreeP ts) (c : List Nat) (hc : ∀ j ∈ c, j < ts.length) {p : ByteArray} (hp : ¬ p = zzS) : (upAts us c).find? (declB p) = (upAts ts c).find? (declB p) ∧ (upAts us c).all rightB = (upAts ts c).all rightB := by
  unfold upAts
  induction c with
  | nil => exact ⟨rfl, rfl⟩
  | cons j c ih =>
    have hj := hc j (by simp)
    obtain ⟨i1, i2⟩ := ih (fun i hi => hc i (by simp [hi]))
    obtain ⟨z, e⟩ := h.row hj
    rw [List.flatMap_cons, List.flatMap_cons, e, List.getElem?_eq_getElem hj]
    simp only
    have f1 := find_turn (z := z) (ats_of hT hj) hp
    have f2 := all_turn (l := ts[j].attrs) (z := z)
    generalize (ts[j].attrs.reverse ++ if z = true then [zzA] else []) = A at *
    rw [List.find?_append, List.find?_append, f1, i1, List.all_append, List.all_append, f2, i2]
    exact ⟨rfl, rfl⟩

theorem chain_lt (ts : List Tk) : ∀ (i : Nat), ∀ p ∈ chainF ts (i + 1), p < i + 1
  | 0, p, hp => by have : p ∈ [0] := hp; simp at this; omega
  | i + 1, p, hp => by
    have e : chainF ts (i + 1 + 1) = (i + 1) :: (chainF ts (i + 1)).dropWhile (fun (x : Nat) => !decide ((x : Int) = parI ts (i + 1))) := rfl
    rw [e] at hp
    rcases List.mem_cons.1 hp with rfl | hp
    · omega
    · have := chain_lt ts i p ((List.dropWhile_sublist _).subset hp)
      omega

theorem Turned.mean (h : Turned ts us) (hT : TreeP ts) {i : Nat} (hi : i < ts.length) {p : ByteArray} (hp : ¬ p = zzS) : meanF us i p = meanF ts i p := by
  unfold meanF
  rw [h.chain]
  obtain ⟨a, b⟩ := h.up hT (chainF ts (i + 1)) (fun j hj => by have := chain_lt ts i j hj; omega) hp
  unfold meanL
  rw [a, b]

theorem not_zz (hT : TreeP ts) (h6 : NoSix ts) {i : Nat} (hi : i < ts.length) {p : ByteArray} (h : (meanF ts i p).isSome = true) : ¬ p = zzS := by
  rintro rfl
  unfold meanF meanL at h
  split at h
  · cases hf : (upAts ts (chainF ts (i + 1))).find? (declB zzS) with
    | none =>
      rw [hf] at h
      simp only at h
      rw [if_neg (by decide)] at h
      cases h
    | some x =>
      have hx := List.mem_of_find?_eq_some hf
      have dx := List.find?_some hf
      unfold declB at dx
      rw [decide_eq_true_eq] at dx
      unfold upAts at hx
      obtain ⟨j, hj, hx⟩ := List.mem_flatMap.1 hx
      have hjl : j < ts.length := by have := chain_lt ts i j hj; omega
      rw [List.getElem?_eq_getElem hjl] at hx
      have hok := ((attrs_iff _).1 (ats_of hT hjl)).2.1 x hx
      exact h6 _ (List.getElem_mem hjl) x hx (six_zz hok.1 dx)
  · cases h

theorem zz_cnt : cntB zzA = false := by unfold cntB; rw [zz_decl]; rfl

theorem filter_turn {l : List At} {z : Bool} {f : At → Bool} (hf : f zzA = false) : (l.reverse ++ (if z then [zzA] else [])).filter f = (l.filter f).reverse := by
  rw [List.filter_append, List.filter_reverse]
  cases z with
  | false => simp
  | true => simp [hf]

theorem turn_names (hN : NamesP ts) (h6 : NoSix ts) (h : Turned ts us) : NamesP us := by
  have hT := hN.1
  refine ⟨turn_tree hT h6 h, fun i u hu => ?_⟩
  have hi : i < us.length := by
    rcases Nat.lt_or_ge i us.length with q | q
    · exact q
    · rw [List.getElem?_eq_none q] at hu; cases hu
  have hi' : i < ts.length := by rw [← h.len]; exact hi
  rw [List.getElem?_eq_getElem hi] at hu
  injection hu with hu
  subst hu
  obtain ⟨g1, g2, g3, z, g4, g5⟩ := h.get hi' hi
  rcases hN.2 i ts[i] (List.getElem?_eq_getElem hi') with e | ⟨e1, e2, e3, e4⟩
  · exact .inl (by rw [g2]; exact e)
  · refine .inr ⟨?_, by rw [g2]; exact e2, fun x hx hc => ?_, ?_⟩
    · rw [g2, h.mean hT hi' (not_zz hT h6 hi' e1)]
      exact e1
    · rw [g4] at hx
      rcases List.mem_append.1 hx with q | q
      · have hx' := List.mem_reverse.1 q
        have hs := e3 x hx' hc
        rw [h.mean hT hi' (not_zz hT h6 hi' hs)]
        exact hs
      · have : x = zzA := by
          cases z with
          | false => exact absurd q (by simp)
          | true => simpa using q
        rw [this, zz_cnt] at hc
        cases hc
    · unfold keysN at e4 ⊢
      rw [g4, filter_turn zz_cnt, List.map_reverse]
      refine (List.reverse_perm _).nodup_iff.2 ?_
      have : (ts[i].attrs.filter cntB).map (keyN us i) = (ts[i].attrs.filter cntB).map (keyN ts i) := by
        refine List.map_congr_left fun x hx => ?_
        obtain ⟨h1, h2⟩ := List.mem_filter.1 hx
        unfold keyN
        rw [h.mean hT hi' (not_zz hT h6 hi' (e3 x h1 h2))]
      rw [this]
      exact e4

/-- No two of the others are alike by meaning and local. -/
theorem oth_total (hN : NamesP ts) {i : Nat} (hi : i < ts.length) (hne : ¬ ts[i].name.size = 0) : ∀ x ∈ ts[i].attrs.filter nodeclB, ∀ y ∈ ts[i].attrs.filter nodeclB, aheadF ts i x y = false → aheadF ts i y x = false → x = y := by
  have hT := hN.1
  have hr := right_of hN hi (by rw [nodeAt_at hi]; exact hne)
  rcases hN.2 i ts[i] (List.getElem?_eq_getElem hi) with e | ⟨e1, e2, e3, e4⟩
  · exact absurd e hne
  obtain ⟨_, ok, pw⟩ := (attrs_iff _).1 (ats_of hT hi)
  -- what a prefix means is something
  have some_mean : ∀ x ∈ ts[i].attrs, cntB x = true → ¬ ((meanF ts i (preS x.name)).getD ⟨#[]⟩).size = 0 := by
    intro x hx hc
    have hs := e3 x hx hc
    have hp : ¬ (preS x.name).size = 0 := by unfold cntB at hc; simp only [Bool.and_eq_true, Bool.not_eq_true', decide_eq_false_iff_not] at hc; exact hc.2
    rw [meanF_look hr] at hs ⊢
    unfold lookL at hs ⊢
    cases hf : (outAts ts i).find? (declB (preS x.name)) with
    | none => rw [hf] at hs; simp only at hs; rw [if_neg hp] at hs; cases hs
    | some y =>
      have hy := List.mem_of_find?_eq_some hf
      have dy := List.find?_some hf
      have ry := List.all_eq_true.1 hr y hy
      unfold declB at dy
      rw [decide_eq_true_eq] at dy
      unfold rightB at ry
      rw [dy] at ry
      simp only [Bool.and_eq_true, Bool.or_eq_true, decide_eq_true_eq, Bool.not_eq_true', decide_eq_false_iff_not] at ry
      exact ry.2.resolve_left hp
  intro x hx y hy h1 h2
  obtain ⟨hx1, hx2⟩ := List.mem_filter.1 hx
  obtain ⟨hy1, hy2⟩ := List.mem_filter.1 hy
  unfold aheadF at h1 h2
  simp only [Bool.or_eq_false_iff, Bool.and_eq_false_iff, decide_eq_false_iff_not] at h1 h2
  have k1 := ltB_tri h1.1 h2.1
  have k2 := ltB_tri (h1.2.resolve_left (fun q => q k1)) (h2.2.resolve_left (fun q => q k1.symm))
  have cnt : ∀ a ∈ ts[i].attrs, nodeclB a = true → ¬ (preS a.name).size = 0 → cntB a = true := fun a _ ha hp => by unfold cntB; unfold nodeclB at ha; rw [ha, decide_eq_false hp]; rfl
  unfold atMean at k1
  by_cases px : (preS x.name).size = 0
  · by_cases py : (preS y.name).size = 0
    · have l1 : locS x.name = x.name := by
        rcases name_parts (ok x hx1).1 with ⟨_, _, q⟩ | ⟨q, _⟩
        · exact q
        · exact absurd px q
      have l2 : locS y.name = y.name := by
        rcases name_parts (ok y hy1).1 with ⟨_, _, q⟩ | ⟨q, _⟩
        · exact q
        · exact absurd py q
      rw [l1, l2] at k2
      exact find_turn.same_name pw hy1 hx1 k2.symm
    · rw [if_pos px, if_neg py] at k1
      exact absurd (by rw [← k1]; rfl) (some_mean y hy1 (cnt y hy1 hy2 py))
  · by_cases py : (preS y.name).size = 0
    · rw [if_neg px, if_pos py] at k1
      exact absurd (by rw [k1]; rfl) (some_mean x hx1 (cnt x hx1 hx2 px))
    · rw [if_neg px, if_neg py] at k1
      have ek : keyN ts i x = keyN ts i y := by unfold keyN; rw [k1, k2]
      have mx : x ∈ ts[i].attrs.filter cntB := List.mem_filter.2 ⟨hx1, cnt x hx1 hx2 px⟩
      have my : y ∈ ts[i].attrs.filter cntB := List.mem_filter.2 ⟨hy1, cnt y hy1 hy2 py⟩
      unfold keysN at e4
      obtain ⟨m, hm, rfl⟩ := List.getElem_of_mem mx
      obtain ⟨n, hn, rfl⟩ := List.getElem_of_mem my
      have : m = n := by
        refine (List.getElem_inj (xs := (ts[i].attrs.filter cntB).map (keyN ts i)) (i := m) (j := n) (h₀ := by rw [List.length_map]; exact hm) (h₁ := by rw [List.length_map]; exact hn) e4).1 ?_
        rw [List.getElem_map, List.getElem_map]
        exact ek
      subst this
      rfl

theorem turn_canon (hN : NamesP ts) (h6 : NoSix ts) (h : Turned ts us) (f : Nat) (sd : List At) : canonN ts (-1) f 0 sd = canonN us (-1) f 0 sd := by
  have hT := hN.1
  refine canon_alike (φ := fun i => i) (D := fun i => i < ts.length) (fun i hi => ?_) (fun i _ => ⟨by omega, by omega⟩) (fun i hi => ?_) f 0 sd hT.1
  · have hu : i < us.length := by rw [h.len]; exact hi
    obtain ⟨g1, g2, g3, z, g4, g5⟩ := h.get hi hu
    have nT := nodeAt_at hi
    have nU := nodeAt_at hu
    have needed : ¬ (nodeAt ts i).name.size = 0 → ∀ p ∈ preL7 (nodeAt ts i).name (nodeAt ts i).attrs, (meanF ts i p).isSome = true := fun hn p hp => by
      rw [nT] at hn hp
      rcases hN.2 i ts[i] (List.getElem?_eq_getElem hi) with e | ⟨e1, _, e3, _⟩
      · exact absurd e hn
      · rcases (pre_strict _ _).2 p |>.1 hp with rfl | ⟨x, hx, hc, rfl⟩
        · exact e1
        · exact e3 x hx hc
    refine ⟨by rw [nT, nU]; exact g2, by rw [nT, nU]; exact g3, fun _ => ?_, fun hn => ?_, fun hn p hp => ?_⟩
    · rw [nT, nU, g2, g4]
      obtain ⟨a1, a2⟩ := pre_strict ts[i].name (ts[i].attrs.reverse ++ (if z then [zzA] else []))
      obtain ⟨b1, b2⟩ := pre_strict ts[i].name ts[i].attrs
      refine strict_same a1 b1 fun y => ?_
      rw [a2, b2]
      constructor
      · rintro (e | ⟨x, hx, hc, rfl⟩)
        · exact .inl e
        · rcases List.mem_append.1 hx with q | q
          · exact .inr ⟨x, List.mem_reverse.1 q, hc, rfl⟩
          · have : x = zzA := by
              cases z with
              | false => exact absurd q (by simp)
              | true => simpa using q
            rw [this, zz_cnt] at hc
            cases hc
      · rintro (e | ⟨x, hx, hc, rfl⟩)
        · exact .inl e
        · exact .inr ⟨x, List.mem_append_left _ (List.mem_reverse.2 hx), hc, rfl⟩
    · have hn' := hn
      rw [nT] at hn'
      have ea : othL us i (nodeAt us i).attrs = othL ts i (nodeAt us i).attrs := by
        refine oth_congr fun x hx hc => ?_
        rw [nU, g4] at hx
        have hx' : x ∈ ts[i].attrs := by
          rcases List.mem_append.1 hx with q | q
          · exact List.mem_reverse.1 q
          · have : x = zzA := by
              cases z with
              | false => exact absurd q (by simp)
              | true => simpa using q
            rw [this, zz_cnt] at hc
            cases hc
        have hs := needed hn (preS x.name) ((pre_strict _ _).2 _ |>.2 (.inr ⟨x, by rw [nT]; exact hx', hc, rfl⟩))
        unfold mnF
        rw [h.mean hT hi (not_zz hT h6 hi hs)]
      have zn : nodeclB zzA = false := by unfold nodeclB; rw [zz_decl]; rfl
      rw [ea, nU, nT, g4, oth_sort, oth_sort, filter_turn zn]
      have nd : (ts[i].attrs.filter nodeclB).Nodup := by
        have pw := ((attrs_iff _).1 (ats_of hT hi)).2.2
        have : ts[i].attrs.Nodup := pw.imp fun h e => h (by rw [e])
        exact this.filter _
      exact sort_rev (ahead_ord ts i) nd (oth_total hN hi hn')
    · unfold mnF
      rw [h.mean hT hi (not_zz hT h6 hi (needed hn p hp))]
  · have nb : ∀ l : List Nat, l.filter (notB (-1)) = l := fun l => List.filter_eq_self.2 fun x _ => by unfold notB; rw [decide_eq_false (by omega)]; rfl
    refine ⟨_, rfl, fun j hj => ?_, ?_⟩
    · rw [nb] at hj
      exact kidsN_lt hj
    · rw [nb, nb, List.map_id']
      unfold kidsN kidsTo
      rw [h.len]
      exact List.filter_congr fun j _ => by rw [h.par]

theorem turn_all (hN : namesB ts = true) (h6 : NoSix ts) (h : Turned ts us) : namesB us = true ∧ canonI us 0 (-1) = canonI ts 0 (-1) := by
  have hNt : NamesP ts := by unfold namesB at hN; simpa using hN
  have hNu := turn_names hNt h6 h
  have hNb : namesB us = true := namesB_t hNu
  refine ⟨hNb, ?_⟩
  have el0 : ∀ (tt : List Tk), TreeP tt → elemB tt 0 = true := fun tt hT => by
    unfold elemB
    rw [show hasB tt (0 : Int) = true from has_of (k := 0) hT hT.1, show ((0 : Int).toNat) = 0 from rfl]
    obtain ⟨h0, hn⟩ := hT.2.2.2.1
    rw [nameI_at h0, decide_eq_false hn]
    rfl
  have c1 : canB ts 0 (-1) = true := by
    unfold canB
    have := hNt.1.1
    rw [hN, el0 _ hNt.1, decide_eq_true (show (-1 : Int) ≤ -1 ∧ (-1 : Int) ≤ (ts.length : Int) - 1 by omega)]
    rfl
  have c2 : canB us 0 (-1) = true := by
    unfold canB
    have := hNu.1.1
    rw [hNb, el0 _ hNu.1, decide_eq_true (show (-1 : Int) ≤ -1 ∧ (-1 : Int) ≤ (us.length : Int) - 1 by omega)]
    rfl
  rw [canonI_yes c1, canonI_yes c2, h.len]
  exact (turn_canon hNt h6 h _ _).symm

end

end Go.Proofs.YteninofjeidljaaGreat

namespace Go.Proofs.YteninofjeidljaaGreat
open Go.RowKit
set_option linter.unusedVariables false

section
variable {ts : List Tk} {k : Nat}

/-- The attrs from an element of it outwards. -/
theorem out_step (hC : TreeP (treeC ts k)) {j : Nat} (hj : j < (branchL ts k).length) (hn : ¬ (nodeAt ts (k + j)).name.size = 0) :
    (j = 0 ∧ outAts (treeC ts k) j = attC ts (k + j) (sdC ts k j) ++ []) ∨ ∃ p : Nat, p < j ∧ parI (branchL ts k) j = (p : Int) ∧ outAts (treeC ts k) j = attC ts (k + j) (sdC ts k j) ++ outAts (treeC ts k) p := by
  have hjC : j < (treeC ts k).length := by rw [treeC_len]; exact hj
  have ea : (match (treeC ts k)[j]? with | some t => t.attrs | none => []) = attC ts (k + j) (sdC ts k j) := by
    rw [treeC_get hj]
    unfold nodeC
    simp only [hn, if_false]
  by_cases h0 : j = 0
  · subst h0
    refine .inl ⟨rfl, ?_⟩
    unfold outAts upAts
    show List.flatMap _ [0] = _
    rw [List.flatMap_cons, List.flatMap_nil]
    exact congrArg (· ++ []) ea
  · have hp0 : 0 ≤ parI (treeC ts k) j := by
      rcases hC.up j hjC with h' | ⟨p, _, ep, _⟩
      · exact absurd h' h0
      · omega
    obtain ⟨p, hp⟩ : ∃ p : Nat, parI (treeC ts k) j = (p : Int) := ⟨(parI (treeC ts k) j).toNat, by omega⟩
    obtain ⟨hlt, e⟩ := chain_par hC hjC hp
    refine .inr ⟨p, hlt, by rw [← treeC_par]; exact hp, ?_⟩
    unfold outAts upAts
    rw [e, List.flatMap_cons]
    exact congrArg (· ++ _) ea

theorem par_el (hB : TreeP (branchL ts k)) (hk : k < ts.length) {j p : Nat} (hj : j < (branchL ts k).length) (hp : parI (branchL ts k) j = (p : Int)) : p < (branchL ts k).length ∧ ¬ (nodeAt ts (k + p)).name.size = 0 := by
  have hlen := branchL_len hk
  have hle := endN_le hk
  rcases hB.up j hj with h' | ⟨q, _, eq, h1, h2⟩
  · subst h'
    rw [hB.2.2.1] at hp
    omega
  · have : q = p := by omega
    subst this
    refine ⟨h1, ?_⟩
    rw [(branch_node hk (j := q) (by omega)).1, nodeAt_at h1]
    exact h2

/-- What stands around an element says what is said, and is right. -/
theorem said_out (hN : NamesP ts) (hk : k < ts.length) (hB : TreeP (branchL ts k)) (hC : TreeP (treeC ts k)) : ∀ n j, j < n → j < (branchL ts k).length → ¬ (nodeAt ts (k + j)).name.size = 0 →
    (∃ R, outAts (treeC ts k) j = attC ts (k + j) (sdC ts k j) ++ R ∧ SaidR R (sdC ts k j) ∧ R.all rightB = true) ∧ (outAts (treeC ts k) j).all rightB = true
  | 0, j, h, _, _ => absurd h (Nat.not_lt_zero _)
  | n + 1, j, h, hj, hn => by
    have hlen := branchL_len hk
    have hle := endN_le hk
    have hkj : k + j < ts.length := by omega
    have hr := right_of hN hkj hn
    have hatt : (attC ts (k + j) (sdC ts k j)).all rightB = true := by
      rw [List.all_eq_true]
      intro x hx
      rcases List.mem_append.1 hx with h1 | h1
      · obtain ⟨p, hp, rfl⟩ := List.mem_map.1 h1
        have hp2 := (List.mem_filter.1 hp).1
        exact mean_right hr (pre_ok hp2) (need_some hN hkj hn hp2)
      · unfold rightB
        rw [oth_nodecl h1]
    have fin : ∀ R, outAts (treeC ts k) j = attC ts (k + j) (sdC ts k j) ++ R → SaidR R (sdC ts k j) → R.all rightB = true → (∃ R, outAts (treeC ts k) j = attC ts (k + j) (sdC ts k j) ++ R ∧ SaidR R (sdC ts k j) ∧ R.all rightB = true) ∧ (outAts (treeC ts k) j).all rightB = true := fun R e1 e2 e3 =>
      ⟨⟨R, e1, e2, e3⟩, by rw [e1, List.all_append, hatt, e3]; rfl⟩
    rcases out_step hC hj hn with ⟨h0, e⟩ | ⟨p, hlt, hp, e⟩
    · refine fin [] e ?_ rfl
      subst h0
      exact saidR_nil
    · obtain ⟨hpl, hpn⟩ := par_el hB hk hj hp
      obtain ⟨⟨R, e1, e2, e3⟩, e4⟩ := said_out hN hk hB hC n p (by omega) hpl hpn
      refine fin _ e ?_ e4
      rw [e1, sdC_kid hB hj hp]
      exact said_next e2

/-- What is needed means there what it means here. -/
theorem treeC_mean (hN : NamesP ts) (hk : k < ts.length) (hB : TreeP (branchL ts k)) (hC : TreeP (treeC ts k)) {j : Nat} (hj : j < (branchL ts k).length) (hn : ¬ (nodeAt ts (k + j)).name.size = 0) {p : ByteArray} (hp : p ∈ preL7 (nodeAt ts (k + j)).name (nodeAt ts (k + j)).attrs) :
    meanF (treeC ts k) j p = some (mnF ts (k + j) p) := by
  obtain ⟨⟨R, e1, e2, e3⟩, e4⟩ := said_out hN hk hB hC (j + 1) j (by omega) hj hn
  rw [meanF_look e4, e1]
  exact said_mean e2 hp

theorem attC_nodecl (i : Nat) (sd : List At) : (attC ts i sd).filter nodeclB = othL ts i (nodeAt ts i).attrs := by
  rw [attC_is, List.filter_append]
  have e1 : (((newC ts i sd).map fun p => (⟨nmD p, mnF ts i p⟩ : At))).filter nodeclB = [] := by
    refine List.filter_eq_nil_iff.2 fun x hx => ?_
    obtain ⟨p, hp, rfl⟩ := List.mem_map.1 hx
    unfold nodeclB
    rw [nmD_decl (pre_ok (List.mem_filter.1 hp).1)]
    exact Bool.false_ne_true
  have e2 : (othL ts i (nodeAt ts i).attrs).filter nodeclB = othL ts i (nodeAt ts i).attrs := List.filter_eq_self.2 fun x hx => by
    unfold nodeclB
    rw [oth_nodecl hx]
    rfl
  rw [e1, e2, List.nil_append]

theorem cnt_nodecl {x : At} (h : cntB x = true) : nodeclB x = true := by
  unfold cntB at h
  rw [Bool.and_eq_true] at h
  exact h.1

theorem oth_perm (i : Nat) (l : List At) : (othL ts i l).Perm (l.filter nodeclB) := by
  rw [oth_sort]
  exact sort_perm _ _

theorem attC_cnt {i : Nat} {sd : List At} {x : At} (hc : cntB x = true) : x ∈ attC ts i sd ↔ x ∈ (nodeAt ts i).attrs := by
  have h1 : x ∈ attC ts i sd ↔ x ∈ (attC ts i sd).filter nodeclB := by
    rw [List.mem_filter]
    exact ⟨fun h => ⟨h, cnt_nodecl hc⟩, fun h => h.1⟩
  rw [h1, attC_nodecl, (oth_perm i _).mem_iff, List.mem_filter]
  exact ⟨fun h => h.1, fun h => ⟨h, cnt_nodecl hc⟩⟩

theorem attC_pre (i : Nat) (sd : List At) : preL7 (nodeAt ts i).name (attC ts i sd) = preL7 (nodeAt ts i).name (nodeAt ts i).attrs := by
  refine strict_same (pre_strict _ _).1 (pre_strict _ _).1 fun y => ?_
  rw [(pre_strict _ _).2, (pre_strict _ _).2]
  constructor
  · rintro (h | ⟨x, hx, hc, e⟩)
    · exact .inl h
    · exact .inr ⟨x, (attC_cnt hc).1 hx, hc, e⟩
  · rintro (h | ⟨x, hx, hc, e⟩)
    · exact .inl h
    · exact .inr ⟨x, (attC_cnt hc).2 hx, hc, e⟩

/-- What stands in order stays so. -/
theorem sort_rises {α : Type} {lt : α → α → Bool} (ho : OrdB lt) {l : List α} (h : RisesB lt l) : sortG lt l = l := by
  have key : ∀ n, n ≤ l.length → sortG lt (l.take n) = l.take n := by
    intro n
    induction n with
    | zero => intro _; rfl
    | succ n ih =>
      intro hn
      rw [sort_next lt (show n < l.length by omega), ih (by omega), take_snocN (show n < l.length by omega)]
      have h2 : RisesB lt (l.take (n + 1)) := List.Pairwise.sublist (List.take_sublist _ _) h
      rw [take_snocN (show n < l.length by omega)] at h2
      have h3 := List.pairwise_append.1 h2
      have e := ins_stop ho (P := l.take n) (Q := []) (x := l[n]) (by rw [List.append_nil]; exact h3.1) (fun q hq => absurd hq List.not_mem_nil) (fun y hy => h3.2.2 y (List.mem_of_getLast? hy) l[n] (by simp))
      rw [List.append_nil] at e
      exact e
  have := key l.length (Nat.le_refl _)
  rw [List.take_length] at this
  exact this

theorem attC_oth {us : List Tk} {i j : Nat} (sd : List At) (h : ∀ x ∈ attC ts i sd, cntB x = true → mnF us j (preS x.name) = mnF ts i (preS x.name)) : othL us j (attC ts i sd) = othL ts i (nodeAt ts i).attrs := by
  rw [oth_congr h, oth_sort, attC_nodecl, oth_sort]
  exact sort_rises (ahead_ord ts i) (sort_all (ahead_ord ts i) _).1

end

end Go.Proofs.YteninofjeidljaaGreat

namespace Go.Proofs.YteninofjeidljaaGreat
open Go.RowKit
set_option linter.unusedVariables false

section
variable {ts : List Tk} {k : Nat}

theorem nodeC_attrs {j : Nat} (hn : ¬ (nodeAt ts (k + j)).name.size = 0) : (nodeC ts k j).attrs = attC ts (k + j) (sdC ts k j) := by
  unfold nodeC
  simp only [hn, if_false]

theorem treeC_mn (hN : NamesP ts) (hk : k < ts.length) (hB : TreeP (branchL ts k)) (hC : TreeP (treeC ts k)) {j : Nat} (hj : j < (branchL ts k).length) (hn : ¬ (nodeAt ts (k + j)).name.size = 0) {p : ByteArray} (hp : p ∈ preL7 (nodeAt ts (k + j)).name (nodeAt ts (k + j)).attrs) :
    mnF (treeC ts k) j p = mnF ts (k + j) p := by
  have e := treeC_mean hN hk hB hC hj hn hp
  conv => lhs; unfold mnF
  rw [e]
  rfl

theorem cnt_need {i : Nat} {sd : List At} {x : At} (hx : x ∈ attC ts i sd) (hc : cntB x = true) : preS x.name ∈ preL7 (nodeAt ts i).name (nodeAt ts i).attrs :=
  ((pre_strict _ _).2 _).2 (.inr ⟨x, (attC_cnt hc).1 hx, hc, rfl⟩)

theorem treeC_alike (hN : NamesP ts) (hk : k < ts.length) (hB : TreeP (branchL ts k)) (hC : TreeP (treeC ts k)) {j : Nat} (hj : j < (branchL ts k).length) : AlikeN ts (treeC ts k) (k + j) j := by
  refine ⟨by rw [treeC_node hj]; rfl, by rw [treeC_node hj]; rfl, fun hn => ?_, fun hn => ?_, fun hn p hp => (treeC_mn hN hk hB hC hj hn hp).symm⟩
  · rw [treeC_node hj, nodeC_attrs hn]
    exact attC_pre _ _
  · rw [treeC_node hj, nodeC_attrs hn]
    exact attC_oth _ fun x hx hc => treeC_mn hN hk hB hC hj hn (cnt_need hx hc)

/-- It is written the same. -/
theorem treeC_canon (hN : NamesP ts) (hk : k < ts.length) (he : elN ts k) (hC : TreeP (treeC ts k)) {f : Nat} (hf : ts.length - k ≤ f) : canonN (treeC ts k) (-1) (treeC ts k).length 0 [] = canonN ts (-1) f k [] := by
  have hB := branch_tree hN.1 hk he
  have hlen := branchL_len hk
  have hle := endN_le hk
  have hC0 : 0 < (treeC ts k).length := by rw [treeC_len]; omega
  rw [canon_fuel (treeC ts k).length f 0 [] hC0 (by omega) (by rw [treeC_len]; omega)]
  have nb : ∀ l : List Nat, l.filter (notB (-1)) = l := fun l => List.filter_eq_self.2 fun x _ => by unfold notB; rw [decide_eq_false (by omega)]; rfl
  have key := canon_alike (ts := ts) (us := treeC ts k) (but := -1) (but' := -1) (fun i => i - k) (fun i => k ≤ i ∧ i < endN ts k) ?_ ?_ ?_ f k [] ⟨Nat.le_refl _, hle.1⟩
  · rw [key, Nat.sub_self]
  · intro i hi
    obtain ⟨j, rfl⟩ : ∃ j, i = k + j := ⟨i - k, by omega⟩
    show AlikeN ts (treeC ts k) (k + j) (k + j - k)
    rw [show k + j - k = j by omega]
    exact treeC_alike hN hk hB hC (by omega)
  · intro i hi
    exact ⟨by omega, by show ¬ ((i - k : Nat) : Int) = -1; omega⟩
  · intro i hi
    obtain ⟨j, rfl⟩ : ∃ j, i = k + j := ⟨i - k, by omega⟩
    have hj : j < (branchL ts k).length := by omega
    refine ⟨_, rfl, fun q hq => ?_, ?_⟩
    · rw [nb, kids_off hN.1 hk hj] at hq
      obtain ⟨x, hx, rfl⟩ := List.mem_map.1 hq
      have := kidsN_lt hx
      exact ⟨by omega, by omega⟩
    · show (kidsN (treeC ts k) (k + j - k)).filter (notB (-1)) = _
      rw [nb, nb, show k + j - k = j by omega, kids_same treeC_par treeC_len, kids_off hN.1 hk hj, List.map_map]
      conv => lhs; rw [← List.map_id (kidsN (branchL ts k) j)]
      refine List.map_congr_left fun x _ => ?_
      show x = k + x - k
      omega

/-- Its names are right. -/
theorem treeC_names (hN : NamesP ts) (hk : k < ts.length) (he : elN ts k) (hC : TreeP (treeC ts k)) : NamesP (treeC ts k) := by
  have hB := branch_tree hN.1 hk he
  have hlen := branchL_len hk
  have hle := endN_le hk
  refine ⟨hC, fun j t ht => ?_⟩
  have hj : j < (branchL ts k).length := by
    rcases Nat.lt_or_ge j (branchL ts k).length with h | h
    · exact h
    · rw [List.getElem?_eq_none (by rw [treeC_len]; exact h)] at ht; cases ht
  rw [treeC_get hj] at ht
  have e := Option.some.inj ht
  subst e
  by_cases hn : (nodeAt ts (k + j)).name.size = 0
  · exact .inl hn
  · have hkj : k + j < ts.length := by omega
    refine .inr ⟨?_, ?_, ?_⟩
    · show (meanF (treeC ts k) j (preS (nodeAt ts (k + j)).name)).isSome = true
      rw [treeC_mean hN hk hB hC hj hn (((pre_strict _ _).2 _).2 (.inl rfl))]
      rfl
    · show ¬ preS (nodeAt ts (k + j)).name = nsS
      rw [nodeAt_at hkj] at hn ⊢
      rcases hN.2 (k + j) ts[k + j] (List.getElem?_eq_getElem hkj) with h | ⟨_, h, _⟩
      · exact absurd h hn
      · exact h
    · rw [nodeC_attrs hn]
      refine ⟨fun x hx hc => by rw [treeC_mean hN hk hB hC hj hn (cnt_need hx hc)]; rfl, ?_⟩
      unfold keysN
      have e1 : ((attC ts (k + j) (sdC ts k j)).filter cntB).map (keyN (treeC ts k) j) = ((attC ts (k + j) (sdC ts k j)).filter cntB).map (keyN ts (k + j)) := by
        refine List.map_congr_left fun x hx => ?_
        obtain ⟨h1, h2⟩ := List.mem_filter.1 hx
        have e := treeC_mn hN hk hB hC hj hn (cnt_need h1 h2)
        unfold mnF at e
        unfold keyN
        rw [e]
      have e2 : (attC ts (k + j) (sdC ts k j)).filter cntB = (othL ts (k + j) (nodeAt ts (k + j)).attrs).filter cntB := by
        rw [← attC_nodecl (k + j) (sdC ts k j), List.filter_filter]
        refine List.filter_congr fun x _ => ?_
        cases hc : cntB x with
        | true => rw [cnt_nodecl hc]; rfl
        | false => rfl
      rw [e1, e2]
      have hp : ((othL ts (k + j) (nodeAt ts (k + j)).attrs).filter cntB).Perm ((nodeAt ts (k + j)).attrs.filter cntB) := by
        have h1 := (oth_perm (ts := ts) (k + j) (nodeAt ts (k + j)).attrs).filter cntB
        rw [List.filter_filter] at h1
        have e3 : (nodeAt ts (k + j)).attrs.filter (fun a => cntB a && nodeclB a) = (nodeAt ts (k + j)).attrs.filter cntB := by
          refine List.filter_congr fun x _ => ?_
          cases hc : cntB x with
          | true => rw [cnt_nodecl hc]; rfl
          | false => rfl
        rw [e3] at h1
        exact h1
      refine ((hp.map (keyN ts (k + j))).nodup_iff).2 ?_
      rw [nodeAt_at hkj] at hn ⊢
      rcases hN.2 (k + j) ts[k + j] (List.getElem?_eq_getElem hkj) with h | ⟨_, _, h⟩
      · exact absurd h hn
      · exact h.2

/-- Read again, where it can be read: right names, and written the same. -/
theorem canon_again (hN : NamesP ts) (hk : k < ts.length) (he : elN ts k) {f : Nat} (hf : ts.length - k ≤ f) :
    toksF (canonN ts (-1) f k []).data.toList = none ∨ ∃ l, toksF (canonN ts (-1) f k []).data.toList = some l ∧ grownT l = some (treeC ts k) ∧ NamesP (treeC ts k) ∧ canonN (treeC ts k) (-1) (treeC ts k).length 0 [] = canonN ts (-1) f k [] := by
  rcases canon_read hN [] hk hf with h | ⟨h1, h2, h3⟩
  · exact .inl h
  · obtain ⟨hC, hg⟩ := canon_grown hN.1 hk he hf h2
    exact .inr ⟨_, h1, hg, treeC_names hN hk he hC, treeC_canon hN hk he hC hf⟩

end

end Go.Proofs.YteninofjeidljaaGreat

namespace Go.Proofs.YteninofjeidljaaGreat
open Go.RowKit
set_option linter.unusedVariables false

/-- Where a node stands once those from a up to h are gone. -/
def gapF (a h x : Nat) : Nat := if x < a then x else x - (h - a)

def stays (a h x : Nat) : Prop := x < a ∨ h ≤ x

structure Gap (ts us : List Tk) (a h : Nat) : Prop where
  tree : TreeP ts
  tree' : TreeP us
  ah : a < h
  hn : h ≤ ts.length
  one : 1 ≤ a
  len : us.length + (h - a) = ts.length
  name : ∀ x, x < ts.length → stays a h x → (nodeAt us (gapF a h x)).name = (nodeAt ts x).name
  attrs : ∀ x, x < ts.length → stays a h x → (nodeAt us (gapF a h x)).attrs = (nodeAt ts x).attrs
  par : ∀ x, x < ts.length → stays a h x → parI us (gapF a h x) = (if (h : Int) ≤ parI ts x then parI ts x - ((h : Int) - (a : Int)) else parI ts x)
  out : ∀ x, x < ts.length → stays a h x → parI ts x < (a : Int) ∨ (h : Int) ≤ parI ts x

variable {ts us : List Tk} {a h : Nat}

theorem gapF_low {x : Nat} (hx : x < a) : gapF a h x = x := if_pos hx

theorem gapF_high {x : Nat} (ha : a < h) (hx : h ≤ x) : gapF a h x = x - (h - a) := if_neg (by omega)

theorem gapF_lt (ha : a < h) {x y : Nat} (hx : stays a h x) (hy : stays a h y) : gapF a h x < gapF a h y ↔ x < y := by
  unfold stays at hx hy
  rcases hx with hx | hx <;> rcases hy with hy | hy
  · rw [gapF_low hx, gapF_low hy]
  · rw [gapF_low hx, gapF_high ha hy]; omega
  · rw [gapF_high ha hx, gapF_low hy]; omega
  · rw [gapF_high ha hx, gapF_high ha hy]; omega

theorem gapF_inj (ha : a < h) {x y : Nat} (hx : stays a h x) (hy : stays a h y) (e : gapF a h x = gapF a h y) : x = y := by
  have h1 := gapF_lt ha hx hy
  have h2 := gapF_lt ha hy hx
  omega

theorem Gap.below (g : Gap ts us a h) {x : Nat} (hx : x < ts.length) (hs : stays a h x) : gapF a h x < us.length := by
  have := g.len
  have := g.ah
  have := g.hn
  rcases hs with hs | hs
  · rw [gapF_low hs]; omega
  · rw [gapF_high g.ah hs]; omega

/-- The parent of one that stays, here and there. -/
theorem Gap.up (g : Gap ts us a h) {x : Nat} (hx : x < ts.length) (hs : stays a h x) (h0 : ¬ x = 0) : ∃ p : Nat, parI ts x = (p : Int) ∧ p < x ∧ stays a h p ∧ parI us (gapF a h x) = (gapF a h p : Int) := by
  have hl := low_kind g.tree hx
  have hp : 0 ≤ parI ts x := by
    rcases g.tree.up x hx with h' | ⟨p, _, ep, _⟩
    · exact absurd h' h0
    · omega
  obtain ⟨p, ep⟩ : ∃ p : Nat, parI ts x = (p : Int) := ⟨(parI ts x).toNat, by omega⟩
  have ho := g.out x hx hs
  have hq := g.par x hx hs
  have ha := g.ah
  rw [ep] at ho hl hq
  refine ⟨p, ep, by omega, by unfold stays; omega, ?_⟩
  rw [hq]
  by_cases q : h ≤ p
  · rw [if_pos (by omega), gapF_high ha q]; omega
  · rw [if_neg (by omega), gapF_low (by omega)]

theorem Gap.kept (g : Gap ts us a h) : Kept ts us (gapF a h) (fun x => x < ts.length ∧ stays a h x) := by
  refine ⟨g.tree, g.tree', fun i hi => ⟨hi.1, g.below hi.1 hi.2⟩, fun i hi h0 => ?_, fun i hi h0 => ?_, fun i hi => g.attrs i hi.1 hi.2⟩
  · have := g.one
    rw [gapF_low (by omega)]
    exact h0
  · obtain ⟨p, ep, hlt, hs, eq⟩ := g.up hi.1 hi.2 h0
    exact ⟨p, ep, ⟨by have := hi.1; omega, hs⟩, eq⟩

instance (a h x : Nat) : Decidable (stays a h x) := by unfold stays; infer_instance

theorem filt_none {α : Type} {p : α → Bool} : ∀ {l : List α}, (∀ x ∈ l, p x = false) → l.filter p = []
  | [], _ => rfl
  | x :: l, h => by rw [List.filter_cons_of_neg (by rw [h x (by simp)]; exact Bool.false_ne_true), filt_none (fun y hy => h y (by simp [hy]))]

theorem filt_all {α : Type} {p : α → Bool} {l : List α} (h : ∀ x ∈ l, p x = true) : l.filter p = l := List.filter_eq_self.2 h

/-- The places there are those of the ones that stay. -/
theorem gap_range (ha : a < h) {n m : Nat} (hn : h ≤ n) (hm : m + (h - a) = n) : ((List.range n).filter fun x => decide (stays a h x)).map (gapF a h) = List.range m := by
  have e : List.range n = List.range a ++ (List.range' a (h - a) ++ List.range' h (n - h)) := by
    rw [List.range_eq_range', List.range_eq_range', show List.range' h (n - h) = List.range' (a + (h - a)) (n - h) by rw [show a + (h - a) = h by omega], List.range'_append_1, show List.range' a (h - a + (n - h)) = List.range' (0 + a) (h - a + (n - h)) by rw [Nat.zero_add], List.range'_append_1]
    congr 1
    omega
  rw [e, List.filter_append, List.filter_append]
  rw [filt_all (l := List.range a) (fun x hx => decide_eq_true (.inl (List.mem_range.1 hx)))]
  rw [filt_none (l := List.range' a (h - a)) (fun x hx => decide_eq_false (by have := List.mem_range'_1.1 hx; unfold stays; omega))]
  rw [filt_all (l := List.range' h (n - h)) (fun x hx => decide_eq_true (.inr (List.mem_range'_1.1 hx).1))]
  rw [List.nil_append, List.map_append]
  have e1 : (List.range a).map (gapF a h) = List.range a := by
    conv => rhs; rw [← List.map_id (List.range a)]
    exact List.map_congr_left fun x hx => gapF_low (List.mem_range.1 hx)
  have e2 : (List.range' h (n - h)).map (gapF a h) = List.range' a (n - h) := by
    have : (List.range' h (n - h)) = (List.range' a (n - h)).map (fun x => (h - a) + x) := by
      rw [List.map_add_range', show h - a + a = h by omega]
    rw [this, List.map_map]
    conv => rhs; rw [← List.map_id (List.range' a (n - h))]
    refine List.map_congr_left fun x hx => ?_
    have := (List.mem_range'_1.1 hx).1
    show gapF a h (h - a + x) = x
    rw [gapF_high ha (by omega)]
    omega
  rw [e1, e2, List.range_eq_range', show List.range' a (n - h) = List.range' (0 + a) (n - h) by rw [Nat.zero_add], List.range'_append_1, List.range_eq_range']
  congr 1
  omega

/-- The kids there are the kids here that stay. -/
theorem Gap.kids (g : Gap ts us a h) {i : Nat} (hi : i < ts.length) (hs : stays a h i) : kidsN us (gapF a h i) = ((kidsN ts i).filter fun x => decide (stays a h x)).map (gapF a h) := by
  unfold kidsN kidsTo
  rw [← gap_range g.ah g.hn g.len, List.filter_map, List.filter_filter, List.filter_filter]
  congr 1
  refine List.filter_congr fun x hx => ?_
  have hxn := List.mem_range.1 hx
  by_cases hsx : stays a h x
  · rw [decide_eq_true hsx, Bool.and_true, Bool.true_and]
    show (decide (gapF a h i < gapF a h x) && decide (parI us (gapF a h x) = (gapF a h i : Int))) = _
    rw [decide_eq_decide.2 (gapF_lt g.ah hs hsx)]
    congr 1
    apply decide_eq_decide.2
    by_cases h0 : x = 0
    · subst h0
      have e0 : gapF a h 0 = 0 := gapF_low (by have := g.one; omega)
      rw [e0, g.tree'.2.2.1, g.tree.2.2.1]
      omega
    · obtain ⟨p, ep, _, hsp, eq⟩ := g.up hxn hsx h0
      rw [ep, eq]
      constructor
      · intro h'
        have := gapF_inj g.ah hsp hs (by omega)
        omega
      · intro h'
        have : p = i := by omega
        subst this
        rfl
  · rw [decide_eq_false hsx, Bool.and_false, Bool.false_and]

end Go.Proofs.YteninofjeidljaaGreat
