/-
  Lists of atoms in memory; appending one, or several; copies, bounds, comparing. Conditions: as each says.
-/
import Derived.Test.YtamghlneoglfnaaSgA
import Derived.Test.YtamghlneoglfnaaTgD
namespace Go.Proofs.Ytamghlneoglfnaa
open Go.RowKit

def encA (a : AtomD) : List Value := [.string a.says, .string a.pred, .int .i64 a.n, .bool a.t0.v, .string a.t0.name, .bool a.t1.v, .string a.t1.name, .bool a.t2.v, .string a.t2.name, .bool a.t3.v, .string a.t3.name]
theorem EA : EncK encA 11 := ⟨fun _ => rfl, fun x u h => by
  simp only [encA, List.mem_cons, List.mem_nil_iff, or_false] at h
  rcases h with rfl | rfl | rfl | rfl | rfl | rfl | rfl | rfl | rfl | rfl | rfl <;> rfl, by decide⟩
theorem al_loadAny {w : World} {ad : Addr} {ca : Nat} {l : List AtomD} (h : SliceAt encA 11 w (some ad) ca l) : ∀ j v, (flatL encA l)[j]? = some v → w.cell? (ad.add j) = some v := by
  cases l with
  | nil => intro j v hj; simp [flatL] at hj
  | cons x l =>
    obtain ⟨b0, o0, rfl⟩ := h.lt ad rfl (by have := h.le; simp at this; omega)
    exact h.items.load EA
theorem al_succ {l : List AtomD} {f : AtomD → Bool} {k : Nat} (h : k < l.length) (h1 : (l.take k).all f = true) (h2 : f l[k] = true) : (l.take (k + 1)).all f = true := by
  rw [List.take_add_one, List.getElem?_eq_getElem h, List.all_append, h1]; simp [h2]
abbrev AL (w : World) (A : Option Addr) (ca : Nat) (l : List AtomD) : Prop := SliceAt encA 11 w A ca l
abbrev OA (w W : World) (q : Option Addr) (c : Nat) (l : List AtomD) : Prop := OwnL encA 11 27 w W (.slice q l.length c) l
theorem OA.nil (w : World) {W : World} (hb : Bel w W) : OA w W none 0 [] := OwnL.nil w hb
/-- the cells of the item at o + j * 11 -/
theorem al_get {w : World} {A : Option Addr} {ca : Nat} {l : List AtomD} (h : AL w A ca l) (h0 : 0 < l.length) : ∃ b o, A = some ⟨b, o, none⟩ ∧ b < w.heap.size ∧
    ∀ j (h : j < l.length), w.cell? ⟨b, o + j * 11, none⟩ = some (.string l[j].says) ∧ w.cell? ⟨b, o + j * 11 + 1, none⟩ = some (.string l[j].pred) ∧ w.cell? ⟨b, o + j * 11 + 2, none⟩ = some (.int .i64 l[j].n) ∧
      w.cell? ⟨b, o + j * 11 + 3, none⟩ = some (.bool l[j].t0.v) ∧ w.cell? ⟨b, o + j * 11 + 4, none⟩ = some (.string l[j].t0.name) ∧ w.cell? ⟨b, o + j * 11 + 5, none⟩ = some (.bool l[j].t1.v) ∧ w.cell? ⟨b, o + j * 11 + 6, none⟩ = some (.string l[j].t1.name) ∧
      w.cell? ⟨b, o + j * 11 + 7, none⟩ = some (.bool l[j].t2.v) ∧ w.cell? ⟨b, o + j * 11 + 8, none⟩ = some (.string l[j].t2.name) ∧ w.cell? ⟨b, o + j * 11 + 9, none⟩ = some (.bool l[j].t3.v) ∧ w.cell? ⟨b, o + j * 11 + 10, none⟩ = some (.string l[j].t3.name) := by
  obtain ⟨b, o, e, hb, hc⟩ := h.items.get h0
  exact ⟨b, o, e, hb, fun j hj => ⟨hc j hj 0 _ rfl, hc j hj 1 _ rfl, hc j hj 2 _ rfl, hc j hj 3 _ rfl, hc j hj 4 _ rfl, hc j hj 5 _ rfl, hc j hj 6 _ rfl, hc j hj 7 _ rfl, hc j hj 8 _ rfl, hc j hj 9 _ rfl, hc j hj 10 _ rfl⟩⟩
theorem info_A : ∃ i, Try.prog.info? 27 = some i ∧ i.zero = some (.agg #[.string ⟨#[]⟩, .string ⟨#[]⟩, .int .i64 0, .bool false, .string ⟨#[]⟩, .bool false, .string ⟨#[]⟩, .bool false, .string ⟨#[]⟩, .bool false, .string ⟨#[]⟩]) ∧ i.size = 11 ∧ i.bytes = 136 := by
  have h : (Try.prog.info? 27).map (fun i => (i.zero, i.size, i.bytes)) = some (some (.agg #[.string ⟨#[]⟩, .string ⟨#[]⟩, .int .i64 0, .bool false, .string ⟨#[]⟩, .bool false, .string ⟨#[]⟩, .bool false, .string ⟨#[]⟩, .bool false, .string ⟨#[]⟩]), 11, 136) := by kernel_rfl
  cases hq : Try.prog.info? 27 with
  | none => rw [hq] at h; cases h
  | some i =>
    rw [hq] at h
    injection h with h
    injection h with h1 h2
    injection h2 with h2 h3
    exact ⟨i, rfl, h1, h2, h3⟩
theorem news_oneA (w : World) (b : AtomD) : ∀ j u, (encA b)[j]? = some u → (w.alloc (.cells #[.string b.says, .string b.pred, .int .i64 b.n, .bool b.t0.v, .string b.t0.name, .bool b.t1.v, .string b.t1.name, .bool b.t2.v, .string b.t2.name, .bool b.t3.v, .string b.t3.name] 27)).cell? ((⟨w.heap.size, 0, none⟩ : Addr).add j) = some u := fun j u h => by
  rw [addr_at, Nat.zero_add]
  exact cell_of_block (heap_alloc_new w _) (by rw [← Array.getElem?_toList]; exact h)
theorem wpList_pushA {ops : Array Oper} {rest : List Oper} {o : Oper} {a : Act} {w W : World} {Q : Exit → Act → World → Prop} (hgd : o.guard = none) (s x : Operand) (t : TypeId) (ht : Try.prog.underlying t = some (.slice 27))
    (ho : o.op = .call { callee := .builtin .append, args := #[s, x], argTypes := #[t, t] }) {q : Option Addr} {c : Nat} {out : List AtomD} (b : AtomD) (hs : a.eval s = .slice q out.length c) (hx : a.eval x = .slice (some ⟨W.heap.size, 0, none⟩) 1 1)
    (hO : OA w W q c out) (hl : out.length ≤ 2000000)
    (h : ∀ q' c' w' out', RowKit.Hid (out' = out ++ [b]) → RowKit.Hid (OA w w' q' c' out') → wpList Try.prog ops Q rest (a.put o.dst (.slice q' out'.length c')) w') :
    wpList Try.prog ops Q (o :: rest) a (W.alloc (.cells #[.string b.says, .string b.pred, .int .i64 b.n, .bool b.t0.v, .string b.t0.name, .bool b.t1.v, .string b.t1.name, .bool b.t2.v, .string b.t2.name, .bool b.t3.v, .string b.t3.name] 27)) := by
  obtain ⟨i0, hi, hz0, hz1, hz2⟩ := info_A
  have hO2 := hO.bel' (bel_alloc W (.cells #[.string b.says, .string b.pred, .int .i64 b.n, .bool b.t0.v, .string b.t0.name, .bool b.t1.v, .string b.t1.name, .bool b.t2.v, .string b.t2.name, .bool b.t3.v, .string b.t3.name] 27))
  refine wpList_append_mine _ hgd s x t ho 27 i0 _ 11 136 ht hi hz0 hz1 hz2 rfl (by decide) (.slice q out.length c) out.length (flatL encA out) hs hO2.row _ 1 1 (encA b) hx rfl (news_oneA W b) (EA.one b) (by unfold maxLen; omega) (by omega) ?_
  intro v2 w2 ho2 hf2 hn2
  have hP := OwnL.push (x := b) hO (bel_alloc W (.cells #[.string b.says, .string b.pred, .int .i64 b.n, .bool b.t0.v, .string b.t0.name, .bool b.t1.v, .string b.t1.name, .bool b.t2.v, .string b.t2.name, .bool b.t3.v, .string b.t3.name] 27)) ho2 hf2 hn2
  obtain ⟨q', c', rfl⟩ := hP.value
  exact h q' c' w2 (out ++ [b]) (Lib.hid rfl) (Lib.hid hP)
theorem wpList_pushesA {ops : Array Oper} {rest : List Oper} {o : Oper} {a : Act} {w W : World} {Q : Exit → Act → World → Prop} (hgd : o.guard = none) (s x : Operand) (t : TypeId) (ht : Try.prog.underlying t = some (.slice 27))
    (ho : o.op = .call { callee := .builtin .append, args := #[s, x], argTypes := #[t, t] }) {q : Option Addr} {c : Nat} {out : List AtomD} {ad : Addr} {n cm : Nat} {m : List AtomD} (hs : a.eval s = .slice q out.length c) (hx : a.eval x = .slice (some ad) n cm) (hO : OA w W q c out) (hM : AL W (some ad) cm m) (hn : m.length = n)
    (hl : out.length + n ≤ 2000000)
    (h : ∀ q' c' w' out', RowKit.Hid (out' = out ++ m) → RowKit.Hid (OA w w' q' c' out') → wpList Try.prog ops Q rest (a.put o.dst (.slice q' out'.length c')) w') :
    wpList Try.prog ops Q (o :: rest) a W := by
  obtain ⟨i0, hi, hz0, hz1, hz2⟩ := info_A
  subst hn
  refine wpList_append_mine _ hgd s x t ho 27 i0 _ 11 136 ht hi hz0 hz1 hz2 rfl (by decide) (.slice q out.length c) out.length (flatL encA out) hs hO.row _ m.length cm (flatL encA m) hx (flat_len EA m) (al_loadAny hM) (flat_cells EA m) (by unfold maxLen; omega) (by omega) ?_
  intro v2 w2 ho2 hf2 hn2
  have hP := OwnL.grow hO (Below.refl _ _) ho2 hf2 hn2
  obtain ⟨q', c', rfl⟩ := hP.value
  exact h q' c' w2 (out ++ m) (Lib.hid rfl) (Lib.hid hP)

set_option maxHeartbeats 1000000 in
theorem ownA_any (A : Option Addr) (l : List AtomD) (n ca : Nat) (hn : l.length = n) (w : World) (hL : AL w A ca l) (hl : l.length ≤ 100000) :
    Calls Try.prog 22 #[.slice A n ca] w fun e w' => (∃ q c, RowKit.Hid (OA w w' q c l) ∧ e = .returned (.slice q l.length c)) ∧ Bel w w' := by
  subst hn
  have HL := Lib.hid hL
  have hb := bel_alloc w (.cells #[] 27)
  have ho0 : (w.alloc (.cells #[] 27)).ownsRow 0 27 11 (.slice (some ⟨w.heap.size, 0, none⟩) 0 0) 0 [] := World.ownsRow_lit (base := 0) (e := 27) (size := 11) w #[] 0 (Nat.zero_le _) (by unfold maxLen; omega) (by simp)
  have hO : OA w (w.alloc (.cells #[] 27)) (some ⟨w.heap.size, 0, none⟩) 0 [] := ⟨ho0, hb, fun g hg => by simp [Value.ownBlock] at hg; omega⟩
  have HO := Lib.hid hO
  clear ho0 hO
  cases A with
  | some ad =>
    clear hL
    go_enter Try.func22, Try.ntmps22
    go_wp2_with (at_builtin; refine wpList_pushesA rfl (.tmp 3) (.tmp 4) 29 Try.underlying29 rfl rfl rfl HO.out (HL.out.bel hb) rfl (by simp; omega) ?_; intro q' c' w5 out' HX' HO'; obtain rfl : out' = l := HX'.out)
    go_ret
    exact ⟨⟨q', c', HO', rfl⟩, HO'.out.bel⟩
  | none =>
    have hc := hL.nil rfl
    obtain rfl : l = [] := List.eq_nil_of_length_eq_zero (by have := hL.le; omega)
    subst hc
    clear hL
    go_enter Try.func22, Try.ntmps22
    go_wp2
    go_ret
    exact ⟨⟨_, _, HO, rfl⟩, hb⟩

def lightAs (l : List AtomD) (most : Int) : Bool := decide ((l.length : Int) ≤ most) && l.all lightA
theorem lightAs_len {l : List AtomD} {most : Int} (h : ¬ (l.length : Int) ≤ most) : lightAs l most = false := by unfold lightAs; simp only [decide_eq_false h, Bool.false_and]
theorem lightAs_no {l : List AtomD} {most : Int} {b : AtomD} (hb : b ∈ l) (h : lightA b = false) : lightAs l most = false := by
  unfold lightAs
  have : l.all lightA = false := by rw [List.all_eq_false]; exact ⟨b, hb, by simp [h]⟩
  rw [this, Bool.and_false]
theorem lightAs_yes {l : List AtomD} {most : Int} (h : (l.length : Int) ≤ most) (h2 : (l.take l.length).all lightA = true) : lightAs l most = true := by
  rw [List.take_length] at h2
  unfold lightAs
  rw [h2, decide_eq_true h]; rfl
set_option maxHeartbeats 2000000 in
theorem lightAs_any (A : Option Addr) (l : List AtomD) (ca : Nat) (most : Int) (w : World) (hL : AL w A ca l) (hl : l.length ≤ 9223372036854775807) (hk : ∀ x ∈ l, AtomOk x) :
    Calls Try.prog 18 #[.slice A l.length ca, .int .i64 most] w fun e w' => e = .returned (.bool (lightAs l most)) ∧ Bel w w' := by
  have HL := Lib.hid hL
  have HK := Lib.hid hk
  clear hL hk
  by_cases h20 : (l.length : Int) ≤ most
  case neg =>
    have HE := Lib.hid (lightAs_len h20)
    go_enter Try.func18, Try.ntmps18
    go_wp2
    go_ret
    exact ⟨ret_bool HE.out.symm, Below.refl _ _⟩
  go_enter Try.func18, Try.ntmps18
  go_wp2
  go_loopw [5] (fun i wr => ∃ k : Nat, k ≤ l.length ∧ i = .int .i64 k ∧ RowKit.Hid (Bel w wr) ∧ RowKit.Hid ((l.take k).all lightA = true)) (fun i _ => l.length - (intOf i).toNat)
  case atStart => exact ⟨0, Nat.zero_le _, rfl, Lib.hid (Below.refl _ _), Lib.hid rfl⟩
  case round =>
    obtain ⟨k, hk, rfl, HB, HU⟩ := hrel
    by_cases hlt : k < l.length
    case neg =>
      obtain rfl : k = l.length := by omega
      have HE := Lib.hid (lightAs_yes h20 HU.out)
      go_wp2
      go_ret
      exact ⟨ret_bool HE.out.symm, HB.out⟩
    obtain ⟨b, o, rfl, hbb, hc⟩ := al_get (HL.out.bel HB.out) (by omega)
    obtain ⟨c0, c1, c2, c3, c4, c5, c6, c7, c8, c9, c10⟩ := hc k hlt
    have hq : (0 : Int) ≤ k := by omega
    have hq2 : (k : Int) < l.length := by omega
    have HX : RowKit.Hid (lightA l[k] = false → lightAs l most = false) := Lib.hid (lightAs_no (List.getElem_mem hlt))
    have HS : RowKit.Hid (lightA l[k] = true → (l.take (k + 1)).all lightA = true) := Lib.hid (al_succ hlt HU.out)
    have hsz := HK.out _ (List.getElem_mem hlt)
    clear hc hbb
    generalize l[k] = x at c0 c1 c2 c3 c4 c5 c6 c7 c8 c9 c10 HX HS hsz
    have hLx := Lib.hid (fun W => light_any x W hsz)
    cases hx : lightA x <;> rw [hx] at hLx
    · have HE := Lib.hid (HX.out hx)
      clear hx
      go_wp2_with (go_at_call 19; refine (hLx.out _).mono ?_; rintro e w1 ⟨rfl, hg⟩; have HG := Lib.hid (HB.out.trans' hg); clear hg)
      go_ret
      exact ⟨ret_bool HE.out.symm, HG.out⟩
    · have HN := Lib.hid (HS.out hx)
      clear hx
      go_wp2_with (go_at_call 19; refine (hLx.out _).mono ?_; rintro e w1 ⟨rfl, hg⟩; have HG := Lib.hid (HB.out.trans' hg); clear hg)
      go_roundw
      case rel => exact ⟨k + 1, by omega, by go_num, HG, HN⟩
      case measure => simp [intOf]; omega
theorem eqA_self (a : AtomD) : eqA a a = true := (eqA_iff a a).2 rfl
set_option maxHeartbeats 2000000 in
theorem sameA_any (A : Option Addr) (l : List AtomD) (n ca : Nat) (hn : l.length = n) (B : Option Addr) (nb cb : Nat) (hnb : l.length = nb) (w : World) (hL : AL w A ca l) (hM : AL w B cb l) (hl : l.length ≤ 1000000) :
    Calls Try.prog 13 #[.slice A n ca, .slice B nb cb] w fun e w' => e = .returned (.bool true) ∧ Bel w w' := by
  subst hn
  subst hnb
  have HL := Lib.hid hL
  have HM := Lib.hid hM
  clear hL hM
  go_enter Try.func13, Try.ntmps13
  go_wp2
  go_loopw [5] (fun i wr => ∃ k : Nat, k ≤ l.length ∧ i = .int .i64 k ∧ RowKit.Hid (Bel w wr)) (fun i _ => l.length - (intOf i).toNat)
  case atStart => exact ⟨0, Nat.zero_le _, rfl, Lib.hid (Below.refl _ _)⟩
  case round =>
    obtain ⟨k, hk, rfl, HB⟩ := hrel
    by_cases hlt : k < l.length
    · obtain ⟨b, o, rfl, _, hc⟩ := al_get (HL.out.bel HB.out) (by omega)
      obtain ⟨c0, c1, c2, c3, c4, c5, c6, c7, c8, c9, c10⟩ := hc k hlt
      obtain ⟨b', o', rfl, _, hc'⟩ := al_get (HM.out.bel HB.out) (by omega)
      obtain ⟨d0, d1, d2, d3, d4, d5, d6, d7, d8, d9, d10⟩ := hc' k hlt
      have hq : (0 : Int) ≤ k := by omega
      have hq2 : (k : Int) < l.length := by omega
      clear hc hc'
      generalize l[k] = x at c0 c1 c2 c3 c4 c5 c6 c7 c8 c9 c10 d0 d1 d2 d3 d4 d5 d6 d7 d8 d9 d10
      have he := eqA_self x
      have hn := neq_atom x x
      rw [he] at hn
      go_wp2
      go_quiet (fail)
      go_wp2
      go_roundw
      case rel => exact ⟨k + 1, by omega, by go_num, Lib.hid (HB.out.trans' (by first | exact Below.refl _ _ | exact bel_drewN _ _))⟩
      case measure => simp [intOf]; omega
    · obtain rfl : k = l.length := by omega
      go_wp2
      go_ret
      exact ⟨rfl, HB.out⟩
end Go.Proofs.Ytamghlneoglfnaa
