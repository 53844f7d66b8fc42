/-
  The statements' own helpers on bindings: copies, bounds, the chapter's example. Conditions: as each says. What bindings do: once is twice; a composition does one after the other; what one more variable does. No condition.
-/
import Derived.Test.YtiokjjiakcbmhaaDoorSgE
import Derived.Test.YtiokjjiakcbmhaaDoorTgE
import Derived.Test.YtiokjjiakcbmhaaDoorSgD
namespace Go.Proofs.YtiokjjiakcbmhaaDoor
open Go.RowKit

def lightB (b : BindD) : Bool := decide ((b.v.size : Int) ≤ 300) && decide ((b.t.name.size : Int) ≤ 300)
def lightBs (l : List BindD) : Bool := decide ((l.length : Int) ≤ 20) && l.all lightB
theorem lightBs_len {l : List BindD} (h : ¬ (l.length : Int) ≤ 20) : lightBs l = false := by unfold lightBs; simp only [decide_eq_false h, Bool.false_and]
theorem lightBs_no {l : List BindD} {b : BindD} (hb : b ∈ l) (h : lightB b = false) : lightBs l = false := by
  unfold lightBs
  have : l.all lightB = false := by rw [List.all_eq_false]; exact ⟨b, hb, by simp [h]⟩
  rw [this, Bool.and_false]
theorem lightBs_yes {l : List BindD} (h : (l.length : Int) ≤ 20) (h2 : (l.take l.length).all lightB = true) : lightBs l = true := by
  rw [List.take_length] at h2
  unfold lightBs
  rw [h2, decide_eq_true h]; rfl
/-- the strings of bindings fit -/
def BindsOk (l : List BindD) : Prop := ∀ b ∈ l, b.v.size ≤ 9223372036854775807 ∧ b.t.name.size ≤ 9223372036854775807
def twoD : List BindD := [⟨⟨#[88]⟩, ⟨false, ⟨#[98]⟩⟩⟩, ⟨⟨#[89]⟩, ⟨true, ⟨#[90]⟩⟩⟩]
theorem listAt_lit (w : World) (e : TypeId) (cs : Array Value) : ListAt (w.alloc (.cells cs e)) (some ⟨w.heap.size, 0, none⟩) cs.size cs.toList := by
  refine ⟨by simp, .inr ⟨w.heap.size, 0, rfl, by simp, fun j u hu => ?_⟩⟩
  rw [Nat.zero_add]
  exact cell_of_block (heap_alloc_new w _) (by rw [← Array.getElem?_toList]; exact hu)
theorem live_a : errB twoD = 0 := by decide +kernel
theorem live_b : applyA twoD (storedD ⟨#[97, 108, 105, 99, 101]⟩ ⟨#[112]⟩ ([88, 89, 97].map byteD)) = storedD ⟨#[97, 108, 105, 99, 101]⟩ ⟨#[112]⟩ ([98, 90, 97].map byteD) := (eqA_iff _ _).1 (by decide +kernel)
def stepM (out : List BindD) (b : BindD) : List BindD := if (bindD out b.v b.t).2 = 0 then (bindD out b.v b.t).1 else out
def madeL (l : List BindD) : List BindD := l.foldl stepM []
theorem madeL_succ {l : List BindD} {k : Nat} {x : BindD} (h : l[k]? = some x) : madeL (l.take (k + 1)) = stepM (madeL (l.take k)) x := by
  unfold madeL
  rw [List.take_add_one, h, List.foldl_append]
  rfl
theorem bindD_len (l : List BindD) (v : ByteArray) (t : TermD) : (bindD l v t).1.length ≤ l.length + 1 := by
  unfold bindD
  split
  · simp
  · split
    · simp
    · split
      · simp
      · split
        · simp
        · simp [putB_len]
theorem stepM_len (out : List BindD) (b : BindD) : (stepM out b).length ≤ out.length + 1 := by
  unfold stepM
  split
  · exact bindD_len _ _ _
  · omega
end Go.Proofs.YtiokjjiakcbmhaaDoor
namespace Go.Proofs.YtiokjjiakcbmhaaDoor
open Go.RowKit

theorem sub_name {l : List BindD} (hl : checkB l = true) {t : TermD} (ht : t.name ≠ emp) : (subT l t).name ≠ emp := by
  unfold subT
  split
  · cases e : getB l t.name with
    | none => exact ht
    | some u => exact ((checkB_iff.1 hl).2 _ (getB_mem e)).1
  · exact ht
theorem sub_none {l : List BindD} {t : TermD} (h : t.v = true → getB l t.name = none) : subT l t = t := by
  unfold subT
  split
  · rename_i hv; rw [h hv]; rfl
  · rfl
theorem sub_twice {l : List BindD} (hl : checkB l = true) (t : TermD) : subT l (subT l t) = subT l t := sub_none (subT_free hl t)
theorem apply_ext {l m : List BindD} {a b : AtomD} (h1 : a.says = b.says) (h2 : a.pred = b.pred) (h3 : a.n = b.n)
    (h : ∀ i, i < 4 → ∀ t u, (argsD a)[i]? = some t → (argsD b)[i]? = some u → (if i < cntI a.n then subT l t else t) = (if i < cntI a.n then subT m u else u)) : applyA l a = applyA m b := by
  have g0 := h 0 (by omega) a.t0 b.t0 rfl rfl
  have g1 := h 1 (by omega) a.t1 b.t1 rfl rfl
  have g2 := h 2 (by omega) a.t2 b.t2 rfl rfl
  have g3 := h 3 (by omega) a.t3 b.t3 rfl rfl
  unfold applyA
  rw [h1, h2, g0, g1, g2, g3, h3]
/-- an atom under bindings, term by term -/
theorem apply_comp {l m c : List BindD} (h : ∀ t, subT c t = subT m (subT l t)) (a : AtomD) : applyA c a = applyA m (applyA l a) := by
  have e : ∀ (i : Nat) (t : TermD), (if i < cntI a.n then subT c t else t) = (if i < cntI a.n then subT m (if i < cntI a.n then subT l t else t) else (if i < cntI a.n then subT l t else t)) := fun i t => by
    split
    · exact h t
    · rfl
  simp only [applyA]
  rw [e 0 a.t0, e 1 a.t1, e 2 a.t2, e 3 a.t3]
  rfl
theorem apply_twice {l : List BindD} (hl : checkB l = true) (a : AtomD) : applyA l (applyA l a) = applyA l a := (apply_comp (c := l) (fun t => (sub_twice hl t).symm) a).symm

theorem bind_facts {l : List BindD} {v : ByteArray} {t : TermD} {m : List BindD} (hc : checkB l = true) (h : bindD l v t = (m, 0)) :
    v ≠ emp ∧ t.name ≠ emp ∧ getB l v = none ∧ selfB ⟨v, subT l t⟩ = false ∧ m = putB (l.map (fun y => ⟨y.v, subT [⟨v, subT l t⟩] y.t⟩)) ⟨v, subT l t⟩ := by
  by_cases h2 : v = emp ∨ t.name = emp
  · rw [bind_arg hc h2] at h; cases h
  · cases h3 : (getB l v).isSome with
    | true => rw [bind_twice hc h2 h3] at h; cases h
    | false =>
      cases h4 : selfB ⟨v, subT l t⟩ with
      | true => rw [bind_self hc h2 h3 h4] at h; cases h
      | false =>
        rw [bind_ok hc h2 h3 h4] at h
        injection h with h _
        exact ⟨fun e => h2 (.inl e), fun e => h2 (.inr e), (by cases e : getB l v with | none => rfl | some u => rw [e] at h3; cases h3), rfl, h.symm⟩
theorem map_asc {l : List BindD} (h : Asc l) (f : BindD → BindD) (hf : ∀ x, (f x).v = x.v) : Asc (l.map f) := by
  unfold Asc at h ⊢
  rw [List.pairwise_map]
  refine h.imp (fun {a b} hab => ?_)
  unfold ltB at hab ⊢
  rw [hf, hf]; exact hab
theorem bind_asc {l : List BindD} {v : ByteArray} {t : TermD} {m : List BindD} (hc : checkB l = true) (h : bindD l v t = (m, 0)) : Asc m := by
  obtain ⟨_, _, hn, _, rfl⟩ := bind_facts hc h
  refine putB_asc (map_asc (checkB_iff.1 hc).1 _ (fun _ => rfl)) (fun x hx => ?_)
  obtain ⟨y, hy, rfl⟩ := List.mem_map.1 hx
  exact getB_none.1 hn y hy
theorem bind_get {l : List BindD} {v : ByteArray} {t : TermD} {m : List BindD} (hc : checkB l = true) (h : bindD l v t = (m, 0)) (s : ByteArray) :
    getB m s = if s = v then some (subT l t) else (getB l s).map (subT [⟨v, subT l t⟩]) := by
  have hA := bind_asc hc h
  obtain ⟨_, _, hn, _, hm⟩ := bind_facts hc h
  split
  · rename_i e
    subst e
    exact (getB_eq_iff hA).2 (by rw [hm]; exact putB_mem.2 (.inl rfl))
  · rename_i e
    cases g : getB l s with
    | some u => exact (getB_eq_iff hA).2 (by rw [hm]; exact putB_mem.2 (.inr (List.mem_map.2 ⟨⟨s, u⟩, getB_mem g, rfl⟩)))
    | none =>
      refine getB_none.2 fun b hb => ?_
      rw [hm] at hb
      rcases putB_mem.1 hb with rfl | hb
      · exact fun k => e k.symm
      · obtain ⟨y, hy, rfl⟩ := List.mem_map.1 hb
        exact getB_none.1 g y hy
theorem bind_check {l : List BindD} {v : ByteArray} {t : TermD} {m : List BindD} (hc : checkB l = true) (h : bindD l v t = (m, 0)) : checkB m = true := by
  have hA := bind_asc hc h
  have hG := bind_get hc h
  obtain ⟨hv, ht, hn, hs, hm⟩ := bind_facts hc h
  have hu := subT_free hc t
  have hun := sub_name hc ht
  have hself : ¬ ((subT l t).v = true ∧ (subT l t).name = v) := fun k => by
    have : selfB ⟨v, subT l t⟩ = true := selfB_iff.2 (TermD.ext' k.1 k.2)
    rw [hs] at this; cases this
  have free : ∀ x : TermD, (x.v = true → getB l x.name = none ∧ x.name ≠ v) → x.v = true → getB m x.name = none := fun x hx hxv => by
    obtain ⟨h1, h2⟩ := hx hxv
    rw [hG, if_neg h2, h1]; rfl
  rw [checkB_iff]
  refine ⟨hA, fun b hb => ?_⟩
  rw [hm] at hb
  rcases putB_mem.1 hb with rfl | hb
  · exact ⟨hun, free _ (fun k => ⟨hu k, fun e => hself ⟨k, e⟩⟩)⟩
  · obtain ⟨y, hy, rfl⟩ := List.mem_map.1 hb
    obtain ⟨y1, y2⟩ := (checkB_iff.1 hc).2 y hy
    simp only
    rw [subT_one]
    split
    · exact ⟨hun, free _ (fun k => ⟨hu k, fun e => hself ⟨k, e⟩⟩)⟩
    · rename_i hne
      exact ⟨y1, free _ (fun k => ⟨y2 k, fun e => hne ⟨k, e⟩⟩)⟩
theorem bind_sub {l : List BindD} {v : ByteArray} {t : TermD} {m : List BindD} (hc : checkB l = true) (h : bindD l v t = (m, 0)) (x : TermD) : subT m x = subT [⟨v, subT l t⟩] (subT l x) := by
  have hG := bind_get hc h
  obtain ⟨hv, ht, hn, hs, hm⟩ := bind_facts hc h
  by_cases hx : x.v = true
  · unfold subT at *
    rw [if_pos hx, if_pos hx, hG]
    by_cases e : x.name = v
    · rw [if_pos e, e, hn]
      simp only [Option.getD_some, Option.getD_none]
      rw [if_pos hx]
      simp [getB, e]
    · rw [if_neg e]
      cases g : getB l x.name with
      | some u => simp only [Option.map_some, Option.getD_some]
      | none =>
        simp only [Option.map_none, Option.getD_none]
        rw [if_pos hx]
        simp [getB, Ne.symm e]
  · have h1 : subT l x = x := by unfold subT; rw [if_neg hx]
    have h2 : ∀ k, subT k x = x := fun k => by unfold subT; rw [if_neg hx]
    rw [h1, h2, h2]
theorem made_check (l : List BindD) : checkB (madeL l) = true := by
  unfold madeL
  suffices h : ∀ (l out : List BindD), checkB out = true → checkB (l.foldl stepM out) = true from h l [] (by decide)
  intro l
  induction l with
  | nil => intro out h; exact h
  | cons b l ih =>
    intro out h
    refine ih _ ?_
    unfold stepM
    split
    · rename_i hz
      exact bind_check (v := b.v) (t := b.t) h (Prod.ext rfl hz)
    · exact h

theorem join_mem : ∀ {m l : List BindD} {x : BindD}, x ∈ joinB l m ↔ x ∈ l ∨ x ∈ m
  | [], l, x => by simp [joinB]
  | b :: m, l, x => by
    rw [joinB_cons, List.mem_append, List.mem_cons, join_mem, List.mem_cons]
    conv => rhs; rw [← List.take_append_drop (placeN l b.v) l, List.mem_append]
    constructor
    · rintro (h | h | h | h)
      · exact .inl (.inl h)
      · exact .inr (.inl h)
      · exact .inl (.inr h)
      · exact .inr (.inr h)
    · rintro ((h | h) | h | h)
      · exact .inl h
      · exact .inr (.inr (.inl h))
      · exact .inr (.inl h)
      · exact .inr (.inr (.inr h))
theorem join_asc : ∀ {m l : List BindD}, Asc l → Asc m → (∀ x ∈ l, ∀ y ∈ m, x.v ≠ y.v) → Asc (joinB l m)
  | [], l, h, _, _ => h
  | b :: m, l, hl, hm, hd => by
    obtain ⟨m1, m2⟩ := asc_cons.1 hm
    obtain ⟨s1, s2⟩ := place_split (v := b.v) hl
    have hsp : Asc (l.take (placeN l b.v) ++ l.drop (placeN l b.v)) := by rw [List.take_append_drop]; exact hl
    obtain ⟨p1, p2, p3⟩ := asc_append.1 hsp
    have hdrop : ∀ x ∈ l.drop (placeN l b.v), ltS b.v x.v = true := fun x hx => by
      cases q : ltS b.v x.v with
      | true => rfl
      | false => exact absurd (ltS_tri (s2 x hx) q) (hd x (List.mem_of_mem_drop hx) b (List.mem_cons_self ..))
    rw [joinB_cons, asc_append, asc_cons]
    refine ⟨p1, ⟨fun x hx => ?_, join_asc p2 m2 (fun x hx y hy => hd x (List.mem_of_mem_drop hx) y (List.mem_cons_of_mem _ hy))⟩, fun x hx y hy => ?_⟩
    · rcases join_mem.1 hx with hx | hx
      · exact hdrop x hx
      · exact m1 x hx
    · rcases List.mem_cons.1 hy with rfl | hy
      · exact s1 x hx
      · rcases join_mem.1 hy with hy | hy
        · exact p3 x hx y hy
        · exact ltS_trans (s1 x hx) (m1 y hy)
theorem und_mem {l m : List BindD} {x : BindD} : x ∈ undB l m ↔ ∃ y ∈ l, x = ⟨y.v, subT m y.t⟩ ∧ selfB x = false := by
  unfold undB
  rw [List.mem_filter, List.mem_map]
  constructor
  · rintro ⟨⟨y, hy, rfl⟩, h⟩
    exact ⟨y, hy, rfl, by simpa using h⟩
  · rintro ⟨y, hy, rfl, h⟩
    exact ⟨⟨y, hy, rfl⟩, by simp [h]⟩
theorem unb_mem {l m : List BindD} {x : BindD} : x ∈ unbB l m ↔ x ∈ l ∧ getB m x.v = none := by
  unfold unbB
  rw [List.mem_filter]
  refine and_congr Iff.rfl ?_
  cases getB m x.v <;> simp
theorem comp_asc {a b : List BindD} (ha : Asc a) (hb : Asc b) : Asc (compL a b) := by
  refine join_asc (und_asc ha b) (unb_asc hb a) (fun x hx y hy e => ?_)
  obtain ⟨z, hz, rfl, _⟩ := und_mem.1 hx
  have := (unb_mem.1 hy).2
  simp only at e
  rw [← e, getB_of_mem ha hz] at this
  cases this
theorem comp_sub {a b : List BindD} (ha : checkB a = true) (hb : checkB b = true) (t : TermD) : subT (compL a b) t = subT b (subT a t) := by
  have hA := (checkB_iff.1 ha).1
  have hB := (checkB_iff.1 hb).1
  have hC := comp_asc hA hB
  by_cases hv : t.v = true
  · cases g : getB a t.name with
    | some u =>
      have e1 : subT a t = u := by unfold subT; rw [if_pos hv, g]; rfl
      rw [e1]
      have only : ∀ z ∈ a, z.v = t.name → z.t = u := fun z hz e => by
        have := getB_of_mem hA hz
        rw [e, g] at this
        injection this with this; exact this.symm
      cases hs : selfB ⟨t.name, subT b u⟩ with
      | false =>
        have : getB (compL a b) t.name = some (subT b u) := (getB_eq_iff hC).2 (join_mem.2 (.inl (und_mem.2 ⟨_, getB_mem g, rfl, hs⟩)))
        unfold subT
        rw [if_pos hv, this]; rfl
      | true =>
        have hself := selfB_iff.1 hs
        simp only at hself
        have : getB (compL a b) t.name = none := getB_none.2 fun x hx e => by
          rcases join_mem.1 hx with hx | hx
          · obtain ⟨z, hz, rfl, h⟩ := und_mem.1 hx
            simp only at e
            rw [only z hz e, e, hs] at h; cases h
          · have := (unb_mem.1 hx).2
            rw [e, g] at this; cases this
        rw [hself]
        have e2 : subT (compL a b) t = t := by unfold subT; rw [if_pos hv, this]; rfl
        rw [e2]
        exact TermD.ext' hv rfl
    | none =>
      have e1 : subT a t = t := by unfold subT; rw [if_pos hv, g]; rfl
      rw [e1]
      have : getB (compL a b) t.name = getB b t.name := by
        cases k : getB b t.name with
        | some u => exact (getB_eq_iff hC).2 (join_mem.2 (.inr (unb_mem.2 ⟨getB_mem k, g⟩)))
        | none =>
          refine getB_none.2 fun x hx e => ?_
          rcases join_mem.1 hx with hx | hx
          · obtain ⟨z, hz, rfl, _⟩ := und_mem.1 hx
            exact getB_none.1 g z hz e
          · exact getB_none.1 k x (unb_mem.1 hx).1 e
      unfold subT
      rw [if_pos hv, if_pos hv, this]
  · have h2 : ∀ k, subT k t = t := fun k => by unfold subT; rw [if_neg hv]
    rw [h2, h2, h2]
end Go.Proofs.YtiokjjiakcbmhaaDoor
