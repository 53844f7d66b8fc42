/-
  The order of strings by their bytes. No condition. Bindings as lists: which are valid, what a term and an atom are under them, what binding, composing and restricting make. No condition. Bindings in memory; how far a list ascends. Conditions: as each says.
-/
import Derived.Test.YtamghlneoglfnaaTgA
import Derived.Test.YtamghlneoglfnaaTgB
import Derived.Test.YtamghlneoglfnaaGe
import Derived.Test.YtamghlneoglfnaaKitS
import Derived.Laws.Cover1
import Derived.Deep.QuietTactic
import Derived.BigQuiet
import Derived.IntWalk
namespace Go.Proofs.Ytamghlneoglfnaa
open Go.RowKit

theorem bl_irr : ∀ x : List UInt8, Op.bytesLess x x = false
  | [] => rfl
  | a :: x => by simp [Op.bytesLess, bl_irr x]
theorem bl_trans : ∀ x y z : List UInt8, Op.bytesLess x y = true → Op.bytesLess y z = true → Op.bytesLess x z = true
  | _, [], _, h, _ => by simp [Op.bytesLess] at h
  | _, b :: y, [], _, k => by simp [Op.bytesLess] at k
  | [], b :: y, c :: z, _, _ => by simp [Op.bytesLess]
  | a :: x, b :: y, c :: z, h, k => by
    simp only [Op.bytesLess, Bool.or_eq_true, decide_eq_true_eq, Bool.and_eq_true, beq_iff_eq] at h k ⊢
    rcases h with h | ⟨rfl, h⟩
    · rcases k with k | ⟨rfl, k⟩
      · exact .inl (by simp only [UInt8.lt_iff_toNat_lt] at *; omega)
      · exact .inl h
    · rcases k with k | ⟨rfl, k⟩
      · exact .inl k
      · exact .inr ⟨rfl, bl_trans x y z h k⟩
theorem bl_tri : ∀ x y : List UInt8, Op.bytesLess x y = false → Op.bytesLess y x = false → x = y
  | [], [], _, _ => rfl
  | [], b :: y, h, _ => by simp [Op.bytesLess] at h
  | a :: x, [], _, k => by simp [Op.bytesLess] at k
  | a :: x, b :: y, h, k => by
    simp only [Op.bytesLess, Bool.or_eq_false_iff, decide_eq_false_iff_not, Bool.and_eq_false_iff, beq_eq_false_iff_ne] at h k
    have e : a = b := by
      apply UInt8.toNat.inj
      have h1 := h.1; have k1 := k.1
      simp only [UInt8.lt_iff_toNat_lt] at h1 k1
      omega
    subst e
    have h2 := h.2.resolve_left (by simp)
    have k2 := k.2.resolve_left (by simp)
    rw [bl_tri x y h2 k2]
/-- one string is less than another one -/
def ltS (a b : ByteArray) : Bool := Op.bytesLess a.toList b.toList
theorem ltS_irr (a : ByteArray) : ltS a a = false := bl_irr _
theorem ltS_trans {a b c : ByteArray} (h : ltS a b = true) (k : ltS b c = true) : ltS a c = true := bl_trans _ _ _ h k
theorem ltS_tri {a b : ByteArray} (h : ltS a b = false) (k : ltS b a = false) : a = b := ba_ext (bl_tri _ _ h k)
theorem ltS_asymm {a b : ByteArray} (h : ltS a b = true) : ltS b a = false := by
  cases k : ltS b a with
  | false => rfl
  | true => have := ltS_trans h k; rw [ltS_irr] at this; cases this
theorem ltS_ne {a b : ByteArray} (h : ltS a b = true) : a ≠ b := fun e => by rw [e, ltS_irr] at h; cases h
theorem ltS_ge_trans {a b c : ByteArray} (h : ltS b a = false) (k : ltS b c = true) : ltS a c = true := by
  cases q : ltS a b with
  | true => exact ltS_trans q k
  | false => rw [ltS_tri q h]; exact k
theorem ltS_lt_ge {a b c : ByteArray} (h : ltS a b = true) (k : ltS c b = false) : ltS a c = true := by
  cases q : ltS b c with
  | true => exact ltS_trans h q
  | false => rw [← ltS_tri q k]; exact h
theorem toList_ne {a b : ByteArray} (h : a ≠ b) : (a.toList == b.toList) = false := by
  simp only [beq_eq_false_iff_ne]
  exact fun e => h (ba_ext e)
theorem toList_eq {a b : ByteArray} (h : a = b) : (a.toList == b.toList) = true := by rw [h]; simp
theorem toList_emp (a : ByteArray) : a.toList = [] ↔ a = ⟨#[]⟩ := ⟨fun h => ba_ext (by rw [h, ByteArray.toList_eq]), fun h => by rw [h, ByteArray.toList_eq]⟩
end Go.Proofs.Ytamghlneoglfnaa
namespace Go.Proofs.Ytamghlneoglfnaa
open Go.RowKit

structure BindD where
  v : ByteArray
  t : TermD
theorem BindD.ext' {a b : BindD} (h1 : a.v = b.v) (h2 : a.t = b.t) : a = b := by
  cases a; cases b; cases h1; cases h2; rfl
def emp : ByteArray := ⟨#[]⟩
def getB : List BindD → ByteArray → Option TermD
  | [], _ => none
  | b :: l, v => if b.v = v then some b.t else getB l v
def ltB (a b : BindD) : Bool := ltS a.v b.v
def Asc (l : List BindD) : Prop := l.Pairwise (fun a b => ltB a b = true)
instance (l : List BindD) : Decidable (Asc l) := by unfold Asc; infer_instance
def goodB (l : List BindD) (b : BindD) : Bool := !decide (b.t.name = emp) && !(b.t.v && (getB l b.t.name).isSome)
def AscB (l : List BindD) : Bool := decide (Asc l)
def checkB (l : List BindD) : Bool := AscB l && l.all (goodB l)
def subT (l : List BindD) (t : TermD) : TermD := if t.v then (getB l t.name).getD t else t
def applyA (l : List BindD) (a : AtomD) : AtomD :=
  ⟨a.says, a.pred, a.n, if 0 < cntI a.n then subT l a.t0 else a.t0, if 1 < cntI a.n then subT l a.t1 else a.t1, if 2 < cntI a.n then subT l a.t2 else a.t2, if 3 < cntI a.n then subT l a.t3 else a.t3⟩
def selfB (b : BindD) : Bool := b.t.v && decide (b.t.name = b.v)
def undB (l m : List BindD) : List BindD := (l.map (fun b => ⟨b.v, subT m b.t⟩)).filter (fun b => !selfB b)
def unbB (l m : List BindD) : List BindD := l.filter (fun b => !(getB m b.v).isSome)
def placeN (l : List BindD) (v : ByteArray) : Nat := l.countP (fun b => ltS b.v v)
def putB : List BindD → BindD → List BindD
  | [], b => [b]
  | x :: l, b => if ltS b.v x.v then b :: x :: l else x :: putB l b
def withB (l : List BindD) (b : BindD) : List BindD := l.take (placeN l b.v) ++ b :: l.drop (placeN l b.v)
def joinB : List BindD → List BindD → List BindD
  | l, [] => l
  | l, b :: m => l.take (placeN l b.v) ++ b :: joinB (l.drop (placeN l b.v)) m
def errB (l : List BindD) : Int := if checkB l then 0 else 15
def bindD (l : List BindD) (v : ByteArray) (t : TermD) : List BindD × Int :=
  if checkB l = false then ([], 15)
  else if v = emp ∨ t.name = emp then ([], 2)
  else if (getB l v).isSome then ([], 5)
  else if selfB ⟨v, subT l t⟩ then ([], 2)
  else (putB (l.map (fun y => ⟨y.v, subT [⟨v, subT l t⟩] y.t⟩)) ⟨v, subT l t⟩, 0)
def compL (a b : List BindD) : List BindD := joinB (undB a b) (unbB b a)
def compD (a b : List BindD) : List BindD × Int :=
  if checkB a = false ∨ checkB b = false then ([], 15) else if checkB (compL a b) then (compL a b, 0) else ([], 15)
def restD (l : List BindD) (vars : List ByteArray) : List BindD := l.filter (fun b => Lib.containsS vars b.v)

theorem getB_cons (b : BindD) (l : List BindD) (v : ByteArray) : getB (b :: l) v = if b.v = v then some b.t else getB l v := rfl
theorem getB_mem : ∀ {l : List BindD} {v : ByteArray} {t : TermD}, getB l v = some t → ⟨v, t⟩ ∈ l
  | [], _, _, h => by simp [getB] at h
  | b :: l, v, t, h => by
    unfold getB at h
    split at h
    · rename_i e; injection h with h; subst e; subst h; exact List.mem_cons_self ..
    · exact List.mem_cons_of_mem _ (getB_mem h)
theorem getB_none : ∀ {l : List BindD} {v : ByteArray}, getB l v = none ↔ ∀ b ∈ l, b.v ≠ v
  | [], v => by simp [getB]
  | b :: l, v => by
    unfold getB
    split
    · rename_i e
      simp [e]
    · rename_i e
      rw [getB_none]
      simp [e]
theorem asc_cons {b : BindD} {l : List BindD} : Asc (b :: l) ↔ (∀ x ∈ l, ltS b.v x.v = true) ∧ Asc l := by unfold Asc ltB; exact List.pairwise_cons
theorem asc_nil : Asc [] := List.Pairwise.nil
theorem asc_sub {l m : List BindD} (h : Asc l) (hs : m.Sublist l) : Asc m := h.sublist hs
theorem asc_append {l m : List BindD} : Asc (l ++ m) ↔ Asc l ∧ Asc m ∧ ∀ a ∈ l, ∀ b ∈ m, ltS a.v b.v = true := by unfold Asc ltB; exact List.pairwise_append
theorem getB_of_mem : ∀ {l : List BindD}, Asc l → ∀ {b : BindD}, b ∈ l → getB l b.v = some b.t
  | [], _, b, h => by simp at h
  | x :: l, hA, b, h => by
    obtain ⟨h1, h2⟩ := asc_cons.1 hA
    unfold getB
    rcases List.mem_cons.1 h with rfl | h
    · rw [if_pos rfl]
    · rw [if_neg (ltS_ne (h1 b h)), getB_of_mem h2 h]
theorem getB_append : ∀ (l m : List BindD) (v : ByteArray), getB (l ++ m) v = (getB l v).or (getB m v)
  | [], m, v => by simp [getB]
  | b :: l, m, v => by
    rw [List.cons_append, getB_cons, getB_cons, getB_append l m v]
    split <;> rfl
theorem getB_eq_iff {l : List BindD} (h : Asc l) {v : ByteArray} {t : TermD} : getB l v = some t ↔ (⟨v, t⟩ : BindD) ∈ l :=
  ⟨getB_mem, fun hm => getB_of_mem h hm⟩
/-- two ascending lists with the same bindings give the same -/
theorem getB_congr {l m : List BindD} (hl : Asc l) (hm : Asc m) (h : ∀ b, b ∈ l ↔ b ∈ m) (v : ByteArray) : getB l v = getB m v := by
  cases e : getB l v with
  | some t => exact ((getB_eq_iff hm).2 ((h _).1 (getB_mem e))).symm
  | none =>
    refine (getB_none.2 fun b hb => ?_).symm
    exact getB_none.1 e b ((h b).2 hb)
theorem checkB_iff {l : List BindD} : checkB l = true ↔ Asc l ∧ ∀ b ∈ l, b.t.name ≠ emp ∧ (b.t.v = true → getB l b.t.name = none) := by
  unfold checkB AscB
  rw [Bool.and_eq_true, decide_eq_true_eq, List.all_eq_true]
  refine and_congr Iff.rfl (forall_congr' fun b => imp_congr Iff.rfl ?_)
  unfold goodB
  rw [Bool.and_eq_true]
  refine and_congr (by simp) ?_
  cases b.t.v <;> simp
theorem checkB_false {l : List BindD} : checkB l = false ↔ ¬ (Asc l ∧ ∀ b ∈ l, b.t.name ≠ emp ∧ (b.t.v = true → getB l b.t.name = none)) := by
  rw [← checkB_iff]; cases checkB l <;> simp

theorem putB_mem : ∀ {l : List BindD} {b x : BindD}, x ∈ putB l b ↔ x = b ∨ x ∈ l
  | [], b, x => by simp [putB]
  | y :: l, b, x => by
    unfold putB
    split
    · simp
    · rw [List.mem_cons, putB_mem, List.mem_cons]
      constructor
      · rintro (h | h | h)
        · exact .inr (.inl h)
        · exact .inl h
        · exact .inr (.inr h)
      · rintro (h | h | h)
        · exact .inr (.inl h)
        · exact .inl h
        · exact .inr (.inr h)
theorem putB_len : ∀ (l : List BindD) (b : BindD), (putB l b).length = l.length + 1
  | [], b => rfl
  | y :: l, b => by
    unfold putB
    split
    · simp
    · simp [putB_len l b]
theorem putB_asc : ∀ {l : List BindD} {b : BindD}, Asc l → (∀ x ∈ l, x.v ≠ b.v) → Asc (putB l b)
  | [], b, _, _ => asc_cons.2 ⟨by simp, asc_nil⟩
  | y :: l, b, h, hn => by
    obtain ⟨h1, h2⟩ := asc_cons.1 h
    unfold putB
    split
    · rename_i hb
      refine asc_cons.2 ⟨fun x hx => ?_, h⟩
      rcases List.mem_cons.1 hx with rfl | hx
      · exact hb
      · exact ltS_trans hb (h1 x hx)
    · rename_i hb
      refine asc_cons.2 ⟨fun x hx => ?_, putB_asc h2 (fun x hx => hn x (List.mem_cons_of_mem _ hx))⟩
      rcases putB_mem.1 hx with rfl | hx
      · cases q : ltS y.v x.v with
        | true => rfl
        | false => exact absurd (ltS_tri q (by simpa using hb)) (hn y (List.mem_cons_self ..))
      · exact h1 x hx
theorem placeN_le (l : List BindD) (v : ByteArray) : placeN l v ≤ l.length := List.countP_le_length
/-- what stands before the place is less -/
theorem place_split : ∀ {l : List BindD} {v : ByteArray}, Asc l → (∀ x ∈ l.take (placeN l v), ltS x.v v = true) ∧ ∀ x ∈ l.drop (placeN l v), ltS x.v v = false
  | [], v, _ => by simp [placeN]
  | y :: l, v, h => by
    obtain ⟨h1, h2⟩ := asc_cons.1 h
    obtain ⟨i1, i2⟩ := place_split (v := v) h2
    cases q : ltS y.v v with
    | true =>
      have e : placeN (y :: l) v = placeN l v + 1 := by unfold placeN; rw [List.countP_cons_of_pos (by exact q)]
      rw [e, List.take_succ_cons, List.drop_succ_cons]
      refine ⟨fun x hx => ?_, i2⟩
      rcases List.mem_cons.1 hx with rfl | hx
      · exact q
      · exact i1 x hx
    | false =>
      have hall : ∀ x ∈ l, ltS x.v v = false := fun x hx => by
        cases k : ltS x.v v with
        | false => rfl
        | true => have := ltS_trans (h1 x hx) k; rw [q] at this; cases this
      have e : placeN (y :: l) v = 0 := by
        unfold placeN
        rw [List.countP_eq_zero]
        intro x hx
        rcases List.mem_cons.1 hx with rfl | hx
        · simp [q]
        · simp [hall x hx]
      rw [e]
      refine ⟨by simp, fun x hx => ?_⟩
      rcases List.mem_cons.1 (by simpa using hx) with rfl | hx
      · exact q
      · exact hall x hx
/-- a place that parts a list as this one does is this one -/
theorem place_only {l : List BindD} {v : ByteArray} {m : Nat} (hm : m ≤ l.length) (h1 : ∀ i (h : i < l.length), i < m → ltS l[i].v v = true) (h2 : ∀ i (h : i < l.length), m ≤ i → ltS l[i].v v = false) : placeN l v = m := by
  have e : l = l.take m ++ l.drop m := (List.take_append_drop m l).symm
  unfold placeN
  rw [e, List.countP_append]
  have c1 : (l.take m).countP (fun b => ltS b.v v) = m := by
    have : (l.take m).countP (fun b => ltS b.v v) = (l.take m).length := by
      rw [List.countP_eq_length]
      intro x hx
      obtain ⟨i, hi, rfl⟩ := List.mem_iff_getElem.1 hx
      rw [List.length_take] at hi
      rw [List.getElem_take]
      exact h1 i (by omega) (by omega)
    rw [this, List.length_take]; omega
  have c2 : (l.drop m).countP (fun b => ltS b.v v) = 0 := by
    rw [List.countP_eq_zero]
    intro x hx
    obtain ⟨i, hi, rfl⟩ := List.mem_iff_getElem.1 hx
    rw [List.length_drop] at hi
    rw [List.getElem_drop]
    simp [h2 (m + i) (by omega) (by omega)]
  rw [c1, c2]; omega
theorem put_at : ∀ {l : List BindD} {b : BindD}, Asc l → (∀ x ∈ l, x.v ≠ b.v) → putB l b = withB l b
  | [], b, _, _ => rfl
  | y :: l, b, h, hn => by
    obtain ⟨h1, h2⟩ := asc_cons.1 h
    unfold putB withB
    cases q : ltS b.v y.v with
    | true =>
      have e : placeN (y :: l) b.v = 0 := place_only (by simp) (by intro i _ h; omega) (fun i hi _ => by
        cases i with
        | zero => exact ltS_asymm q
        | succ i => exact ltS_asymm (ltS_trans q (h1 _ (by simp))))
      rw [e]; simp
    | false =>
      have q2 : ltS y.v b.v = true := by
        cases k : ltS y.v b.v with
        | true => rfl
        | false => exact absurd (ltS_tri k q) (hn y (List.mem_cons_self ..))
      have e : placeN (y :: l) b.v = placeN l b.v + 1 := by unfold placeN; rw [List.countP_cons_of_pos (by exact q2)]
      rw [e, List.take_succ_cons, List.drop_succ_cons, put_at h2 (fun x hx => hn x (List.mem_cons_of_mem _ hx))]
      simp [withB]
end Go.Proofs.Ytamghlneoglfnaa
namespace Go.Proofs.Ytamghlneoglfnaa
open Go.RowKit

def encB (b : BindD) : List Value := [.string b.v, .bool b.t.v, .string b.t.name]
theorem EB : EncK encB 3 := ⟨fun _ => rfl, fun x u h => by
  simp only [encB, List.mem_cons, List.mem_nil_iff, or_false] at h
  rcases h with rfl | rfl | rfl <;> rfl, by decide⟩
abbrev BL (w : World) (A : Option Addr) (ca : Nat) (l : List BindD) : Prop := SliceAt encB 3 w A ca l
theorem bl_get {w : World} {A : Option Addr} {ca : Nat} {l : List BindD} (h : BL w A ca l) (h0 : 0 < l.length) : ∃ b o, A = some ⟨b, o, none⟩ ∧ b < w.heap.size ∧
    ∀ j (h : j < l.length), w.cell? ⟨b, o + j * 3, none⟩ = some (.string l[j].v) ∧ w.cell? ⟨b, o + j * 3 + 1, none⟩ = some (.bool l[j].t.v) ∧ w.cell? ⟨b, o + j * 3 + 2, none⟩ = some (.string l[j].t.name) := by
  obtain ⟨b, o, e, hb, hc⟩ := h.items.get h0
  exact ⟨b, o, e, hb, fun j hj => ⟨hc j hj 0 _ rfl, hc j hj 1 _ rfl, hc j hj 2 _ rfl⟩⟩
def RunOf (l : List BindD) (n : Nat) : Prop := n ≤ l.length ∧ (0 < l.length → 0 < n) ∧ Asc (l.take n) ∧ (n < l.length → ¬ Asc l)
def Up (l : List BindD) (m : Nat) : Prop := ∀ j (h : j < l.length), j < m → ∃ h0 : j - 1 < l.length, 0 < j → ltB l[j - 1] l[j] = true
theorem asc_of_up : ∀ (l : List BindD), (∀ j (h : j + 1 < l.length), ltB l[j] l[j + 1] = true) → Asc l
  | [], _ => asc_nil
  | [x], _ => asc_cons.2 ⟨by simp, asc_nil⟩
  | x :: y :: l, h => by
    have ih : Asc (y :: l) := asc_of_up (y :: l) (fun j hj => h (j + 1) (by simpa using hj))
    have h0 : ltS x.v y.v = true := h 0 (by simp)
    refine asc_cons.2 ⟨fun z hz => ?_, ih⟩
    rcases List.mem_cons.1 hz with rfl | hz
    · exact h0
    · exact ltS_trans h0 ((asc_cons.1 ih).1 z hz)
theorem asc_adj {l : List BindD} (h : Asc l) (j : Nat) (hj : j + 1 < l.length) : ltB l[j] l[j + 1] = true := List.pairwise_iff_getElem.1 h j (j + 1) (by omega) hj (by omega)
theorem up_take {l : List BindD} {m : Nat} (h : ∀ j (h : j + 1 < l.length), j + 1 < m → ltB l[j] l[j + 1] = true) : Asc (l.take m) :=
  asc_of_up _ (fun j hj => by
    rw [List.length_take] at hj
    rw [List.getElem_take, List.getElem_take]
    exact h j (by omega) (by omega))

end Go.Proofs.Ytamghlneoglfnaa
