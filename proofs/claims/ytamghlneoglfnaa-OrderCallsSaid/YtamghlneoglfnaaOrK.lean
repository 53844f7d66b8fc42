/-
  A list that fills a block of the call's own: made, written at a place, cleared, sorted. Conditions: as each says.
-/
import Derived.Test.YtamghlneoglfnaaGe
import Derived.Laws.CopyRow
import Derived.OwnWalk
import Derived.Shelf.SlSortCmp.WholeK
namespace Go.Proofs.Ytamghlneoglfnaa
open Go.RowKit

section
variable {P : Program} {α : Type} {enc : α → List Value} {k e : Nat}
/-- block g is the list l, laid item by item -/
def BlkL (enc : α → List Value) (e : Nat) (w : World) (g : Nat) (l : List α) : Prop := w.heap[g]? = some (.cells (flatL enc l).toArray e (0, 0))
theorem BlkL.lt {w : World} {g : Nat} {l : List α} (h : BlkL enc e w g l) : g < w.heap.size := lt_of_at h
theorem BlkL.fr {F : List Nat} {w w' : World} {g : Nat} {l : List α} (h : BlkL enc e w g l) (hf : Fr F w w') (hn : g ∉ F) : BlkL enc e w' g l := hf.at hn h
theorem BlkL.bel {w w' : World} {g : Nat} {l : List α} (h : BlkL enc e w g l) (hg : Bel w w') : BlkL enc e w' g l := h.fr (F := []) (Fr.of_below hg) (by simp)
theorem BlkL.cell (E : EncK enc k) {w : World} {g : Nat} {l : List α} (h : BlkL enc e w g l) {j : Nat} (hj : j < l.length) {i : Nat} {u : Value} (hu : (enc l[j])[i]? = some u) : w.cell? ⟨g, j * k + i, none⟩ = some u := by
  have hi : i < k := by have := (List.getElem?_eq_some_iff.1 hu).1; rwa [E.len] at this
  refine cell_of_block h ?_
  rw [List.getElem?_toArray, flat_get E l j i hj hi]
  exact hu
theorem BlkL.items (E : EncK enc k) {w : World} {g : Nat} {l : List α} (h : BlkL enc e w g l) : ItemsAt enc k w (some ⟨g, 0, none⟩) l := fun j hj =>
  ⟨g, 0, rfl, h.lt, fun i u hu => by rw [Nat.zero_add]; exact h.cell E hj hu⟩
theorem BlkL.slice (E : EncK enc k) {w : World} {g : Nat} {l : List α} (h : BlkL enc e w g l) : SliceAt enc k w (some ⟨g, 0, none⟩) l.length l :=
  ⟨h.items E, Nat.le_refl _, (fun h => by cases h), fun a h _ => ⟨_, _, (by injection h with h; exact h.symm)⟩⟩
theorem BlkL.own (E : EncK enc k) {w W : World} {g : Nat} {l : List α} (h : BlkL enc e W g l) (hb : Bel w W) (hg : w.heap.size ≤ g) (hl : l.length ≤ maxLen) : OwnL enc k e w W (.slice (some ⟨g, 0, none⟩) l.length l.length) l := by
  refine ⟨⟨flat_len E l, .inr ⟨g, l.length, _, rfl, Nat.zero_le _, h, Nat.le_refl _, hl, ?_, ?_⟩⟩, hb, fun j hj => ?_⟩
  · simp [flat_len E l]
  · rw [← flat_len E l]; simp
  · simp [Value.ownBlock] at hj; omega
theorem BlkL.of_row (E : EncK enc k) {w : World} {base g n : Nat} {l : List α} (h : w.ownsRow base e k (.slice (some ⟨g, 0, none⟩) n n) n (flatL enc l)) : BlkL enc e w g l := by
  obtain ⟨h0, h⟩ := h
  rcases h with ⟨h1, _⟩ | ⟨g', cap, cur, h1, _, h3, _, _, h6, h7⟩
  · cases h1
  · injection h1 with h1 _ h2
    injection h1 with h1
    injection h1 with h1
    subst h1 h2
    unfold BlkL
    rw [h3]
    have : cur.toList = flatL enc l := by
      rw [← h7, List.take_of_length_le]
      simp [h6]
    rw [← this]
theorem flat_set (E : EncK enc k) : ∀ (l : List α) (j : Nat) (x : α), j < l.length → flatL enc (l.set j x) = (flatL enc l).take (j * k) ++ enc x ++ (flatL enc l).drop (j * k + k)
  | [], j, x, h => by simp at h
  | y :: l, 0, x, _ => by
    have h1 : (enc y ++ flatL enc l).drop k = flatL enc l := by rw [List.drop_append, List.drop_of_length_le (by rw [E.len]; exact Nat.le_refl _), E.len, Nat.sub_self]; rfl
    rw [List.set_cons_zero, flat_cons, flat_cons, Nat.zero_mul, Nat.zero_add, h1]; rfl
  | y :: l, j + 1, x, h => by
    have e1 : (j + 1) * k = k + j * k := by rw [Nat.add_mul, Nat.one_mul, Nat.add_comm]
    have h1 : (enc y ++ flatL enc l).take (k + j * k) = enc y ++ (flatL enc l).take (j * k) := by
      rw [List.take_append, E.len, List.take_of_length_le (by rw [E.len]; omega), Nat.add_sub_cancel_left]
    have h2 : (enc y ++ flatL enc l).drop (k + j * k + k) = (flatL enc l).drop (j * k + k) := by
      rw [List.drop_append, E.len, List.drop_of_length_le (by rw [E.len]; omega), List.nil_append]
      congr 1; omega
    rw [List.set_cons_succ, flat_cons, flat_cons, flat_set E l j x (by simpa using h), e1, h1, h2]
    simp only [List.append_assoc]
theorem Fr.setRow {F : List Nat} (w : World) {g : Nat} (h : g ∈ F) (cs : Array Value) : Fr F w (w.setRow g cs) :=
  ⟨rfl, rfl, rfl, by simp [World.setRow], fun j _ hn => setRow_other w g j cs (fun e => hn (e ▸ h))⟩
theorem store_item (E : EncK enc k) (hsz : (P.info? e).map (·.size) = some k) {w : World} {g : Nat} {l : List α} (hB : BlkL enc e w g l) {j : Nat} (hj : j < l.length) (x : α) :
    ∃ w', (storeVar e ⟨g, j * k, none⟩ (.agg (enc x).toArray)).run P w = .ok () w' ∧ BlkL enc e w' g (l.set j x) ∧ Fr [g] w w' := by
  have hle : j * k + k ≤ l.length * k := by
    have := Nat.mul_le_mul_right k (show j + 1 ≤ l.length from hj); rwa [Nat.add_mul, Nat.one_mul] at this
  have hst := run_storeCells_at P g (j * k) e (enc x) 0 _ w hB (by rw [E.len, List.size_toArray, flat_len E]; omega) (E.one x)
  cases hq : P.info? e with
  | none => rw [hq] at hsz; cases hsz
  | some i =>
    rw [hq] at hsz
    have hs : i.size = k := by simpa using hsz
    have h0 : (storeVar e ⟨g, j * k, none⟩ (.agg (enc x).toArray)).run P w = (storeCells ⟨g, j * k, none⟩ (enc x) 0).run P w := by
      simp [storeVar, sizeOf, typeInfo, hq, Value.cells, hs, E.len]
    refine ⟨_, h0.trans hst, ?_, Fr.setRow w (List.mem_singleton.2 rfl) _⟩
    unfold BlkL
    rw [setRow_heap w g _ _ e _ hB, flat_set E l j x hj, E.len]
    simp only [Nat.add_zero]
theorem wpList_store_item {ops : Array Oper} {rest : List Oper} {o : Oper} {a : Act} {w : World} {Q : Exit → Act → World → Prop} (E : EncK enc k) (hsz : (P.info? e).map (·.size) = some k) (hgd : o.guard = none) (x y : Operand) (ho : o.op = .store e x y) (g j : Nat) (b : α)
    (hx : a.eval x = .pointer (some ⟨g, j * k, none⟩)) (hy : a.eval y = .agg (enc b).toArray) {l : List α} (hB : BlkL enc e w g l) (hj : j < l.length)
    (h : ∀ w', BlkL enc e w' g (l.set j b) → Fr [g] w w' → wpList P ops Q rest (a.put o.dst undef) w') : wpList P ops Q (o :: rest) a w := by
  obtain ⟨w3, hst, h1, h2⟩ := store_item (P := P) E hsz hB hj b
  refine wpList_plain hgd fun _ hK => ?_
  unfold Oper.wp execOp
  simp only [ho, hx, hy, Instr.storeAt, Instr.sureAddr, Sem.run_bind, Sem.run_pure, Result.andThen_ok, hst]
  exact hK _ _ (h w3 h1 h2)
theorem made_flat (E : EncK enc k) (z : α) (zc : Array Value) (hz : enc z = zc.toList) (n : Nat) : (madeCells zc (n * k)).toList = flatL enc (List.replicate n z) := by
  have hk : zc.size = k := by have := E.len z; rw [hz] at this; simpa using this
  apply List.ext_getElem?
  intro j
  have hlen : (flatL enc (List.replicate n z)).length = n * k := by rw [flat_len E, List.length_replicate]
  by_cases hj : j < n * k
  · have hq : j / k < n := (Nat.div_lt_iff_lt_mul E.pos).2 hj
    have hr : j % k < k := Nat.mod_lt _ E.pos
    have e1 : j = j / k * k + j % k := by rw [Nat.mul_comm]; exact (Nat.div_add_mod j k).symm
    have h1 : (flatL enc (List.replicate n z))[j]? = (enc z)[j % k]? := by
      conv => lhs; rw [e1]
      rw [flat_get E _ (j / k) (j % k) (by rw [List.length_replicate]; exact hq) hr, List.getElem_replicate]
    rw [h1, hz]
    have hr2 : j % k < zc.size := by rw [hk]; exact hr
    have h2 : zc[j % k]! = zc[j % k] := getElem!_pos zc _ hr2
    simp [madeCells, hj, hk, hr2, h2]
  · rw [List.getElem?_eq_none (by simp [madeCells]; omega), List.getElem?_eq_none (by rw [hlen]; omega)]
/-- make of n items -/
theorem wpList_make_items {ops : Array Oper} {rest : List Oper} {o : Oper} {a : Act} {w : World} {Q : Exit → Act → World → Prop} (E : EncK enc k) (hgd : o.guard = none) (x y : Operand) (t : TypeId) (ho : o.op = Op.makeSlice t x y) (i : TypeInfo) (z : Value) (d : α)
    (h1 : P.underlying t = some (.slice e)) (h2 : P.info? e = some i) (h3 : i.zero = some z) (h4 : i.size = k) (hd : enc d = z.cells.toList) (n : Nat) (hx : a.eval x = .int .i64 n) (hy : a.eval y = .int .i64 n) (b2 : i.bytes * n ≤ 281474976710656) (b3 : n ≤ maxLen)
    (h : ∀ w', BlkL enc e w' w.heap.size (List.replicate n d) → Bel w w' → wpList P ops Q rest (a.put o.dst (.slice (some ⟨w.heap.size, 0, none⟩) n n)) w') : wpList P ops Q (o :: rest) a w := by
  refine wpList_make_full w hgd x y t ho 0 e i z k h1 h2 h3 h4 .i64 .i64 n n n hx hy rfl rfl b2 b3 (Nat.zero_le _) ?_
  intro w' hr hg
  rw [made_flat E d z.cells hd n] at hr
  exact h w' (BlkL.of_row E hr) ((Fr.of_grown (F := []) hg (fun _ h => by cases h)).below (fun _ h => by cases h) (Nat.le_refl _))

theorem zero_flat (E : EncK enc k) (z : α) (zc : Array Value) (hz : enc z = zc.toList) (n : Nat) : (Builtin.zeroCells zc n).toList = flatL enc (List.replicate n z) := by
  have hk : zc.size = k := by have := E.len z; rw [hz] at this; simpa using this
  rw [← made_flat E z zc hz n]
  simp [Builtin.zeroCells, madeCells, hk]
/-- clear of what lies behind the first m items -/
theorem run_clear_items (E : EncK enc k) {t ty : TypeId} (ht : P.underlying t = some (.slice e)) (z : Value) (hv : ∀ w, (zeroValue e).run P w = .ok z w) (d : α) (hd : enc d = z.cells.toList) {w : World} {g : Nat} {l : List α} (hB : BlkL enc e w g l) {m n c : Nat} (hm : m + n = l.length) (hn : 0 < n) :
    ∃ w', (Builtin.clear_ #[t] ty #[.slice (some ⟨g, m * k, none⟩) n c]).run P w = .ok (.tuple #[]) w' ∧ BlkL enc e w' g (l.take m ++ List.replicate n d) ∧ Fr [g] w w' := by
  have hzl : ((Builtin.zeroCells z.cells n).toList).length = n * k := by rw [zero_flat E d z.cells hd n, flat_len E, List.length_replicate]
  have hst := run_storeCells_at P g (m * k) e (Builtin.zeroCells z.cells n).toList 0 _ w hB (by rw [hzl, List.size_toArray, flat_len E, ← hm, Nat.add_mul]; omega) (by
    intro v hv
    rw [zero_flat E d z.cells hd n] at hv
    exact flat_cells E _ v hv)
  obtain ⟨n', rfl⟩ : ∃ m, n = m + 1 := ⟨n - 1, by omega⟩
  have hF := Fr.setRow w (List.mem_singleton.2 rfl : g ∈ [g]) ((flatL enc l).toArray.toList.take (m * k + 0) ++ (Builtin.zeroCells z.cells (n' + 1)).toList ++ (flatL enc l).toArray.toList.drop (m * k + 0 + (Builtin.zeroCells z.cells (n' + 1)).toList.length)).toArray
  generalize hW : w.setRow g _ = W at hst hF
  have h0 : (Builtin.clear_ #[t] ty #[.slice (some ⟨g, m * k, none⟩) (n' + 1) c]).run P w = .ok (.tuple #[]) W := by simp [Builtin.clear_, run_underlying ht, hv, hst]
  refine ⟨W, h0, ?_, hF⟩
  subst hW
  unfold BlkL
  rw [setRow_heap w g _ _ e _ hB]
  rw [hzl, zero_flat E d z.cells hd _, flat_append, flat_take E]
  congr 3
  simp only [Nat.add_zero]
  rw [List.drop_of_length_le (by show (flatL enc l).length ≤ _; rw [flat_len E, ← hm, Nat.add_mul]; exact Nat.le_refl _), List.append_nil]
theorem wpList_clear_items {ops : Array Oper} {rest : List Oper} {o : Oper} {a : Act} {w : World} {Q : Exit → Act → World → Prop} (E : EncK enc k) (hgd : o.guard = none) (x : Operand) (t : TypeId) (ho : o.op = .call { callee := .builtin .clear, args := #[x], argTypes := #[t] })
    (ht : P.underlying t = some (.slice e)) (z : Value) (hv : ∀ w, (zeroValue e).run P w = .ok z w) (d : α) (hd : enc d = z.cells.toList) {g : Nat} {l : List α} (hB : BlkL enc e w g l) {m n c : Nat} (hx : a.eval x = .slice (some ⟨g, m * k, none⟩) n c) (hm : m + n = l.length) (hn : 0 < n)
    (h : ∀ w', BlkL enc e w' g (l.take m ++ List.replicate n d) → Fr [g] w w' → wpList P ops Q rest (a.put o.dst (.tuple #[])) w') : wpList P ops Q (o :: rest) a w := by
  obtain ⟨w', hr, h1, h2⟩ := run_clear_items (P := P) (ty := o.type) (c := c) E ht z hv d hd hB hm hn
  refine wpList_plain hgd fun _ hK => ?_
  unfold Oper.wp execOp
  simp only [ho, resolve, invoke, builtin, Sem.run_bind, Sem.run_pure, Result.andThen_ok, List.map_toArray, List.map_cons, List.map_nil, hx, hr]
  exact hK _ _ (h w' h1 h2)

end
section
open Go.Sort Go.Lib Go.Shelf
variable {P : Program} {α : Type} {enc : α → List Value} {k e : Nat}
/-- the block as the sort's contract sees it -/
theorem flatK_eq [Inhabited α] (E : EncK enc k) (l : List α) : flatK enc k l.toArray = (flatL enc l).toArray := by
  apply Array.ext
  · simp [flat_len E]
  · intro j h1 h2
    have hj : j < l.length * k := by simpa using h1
    have hq : j / k < l.length := (Nat.div_lt_iff_lt_mul E.pos).2 hj
    have hr : j % k < k := Nat.mod_lt _ E.pos
    have e1 : j = j / k * k + j % k := by rw [Nat.mul_comm]; exact (Nat.div_add_mod j k).symm
    have h3 : (flatL enc l)[j]? = (enc l[j / k])[j % k]? := by
      conv => lhs; rw [e1]
      exact flat_get E l (j / k) (j % k) hq hr
    have h4 := get_flatK enc k l.toArray j (by simpa using hj)
    rw [getElem!_pos _ j h1] at h4
    rw [h4]
    have h5 : (flatL enc l)[j]'(by simpa using h2) = (enc l[j / k])[j % k]'(by rw [E.len]; exact hr) := by
      have := h3
      rw [List.getElem?_eq_getElem (by simpa using h2), List.getElem?_eq_getElem (by rw [E.len]; exact hr)] at this
      exact Option.some.inj this
    rw [List.getElem_toArray, h5]
    have h6 : l.toArray[j / k]! = l[j / k] := by rw [getElem!_pos _ _ (by simpa using hq)]; simp
    rw [h6, getElem!_pos _ _ (by rw [E.len]; exact hr)]
theorem BlkL.holds [Inhabited α] (E : EncK enc k) {w : World} {g : Nat} {l : List α} (h : BlkL enc e w g l) : HoldsK enc k w g 0 l.toArray := by
  unfold HoldsK Sort.Holds
  rw [flatK_eq E]
  intro j hj
  have hj2 : j < (flatL enc l).length := by simpa using hj
  rw [Nat.zero_add]
  refine ⟨cell_of_block h ?_, blk_frozen h j⟩
  rw [getElem!_pos _ j hj]
  simp [hj2]
theorem BlkL.sorted [Inhabited α] (E : EncK enc k) {w : World} {g : Nat} {l : List α} (h : BlkL enc e w g l) (m : Nat) (d : Array α) (hd : d.size = l.length) (os : Array Obj) : BlkL enc e (sortWorldK enc k w g 0 m d os) g d.toList ∧ Fr [g] w (sortWorldK enc k w g 0 m d os) := by
  have hs := h.lt
  unfold sortWorldK putRowK Sort.putRow Sort.mapBlock Sort.grow Sort.ahead
  refine ⟨?_, rfl, rfl, rfl, by simp, fun j hj hn => ?_⟩
  · unfold BlkL
    simp only [Array.getElem?_append, Array.size_modify, hs, if_true, Array.getElem?_modify]
    rw [h]
    simp only [Option.map_some, Sort.onCells, if_true]
    congr 2
    have e0 : flatK enc k d = (flatL enc d.toList).toArray := flatK_eq E d.toList
    rw [e0]
    apply Array.ext
    · simp [Sort.putCells, flat_len E, hd]
    · intro i h1 h2
      have h3 : i < (flatL enc d.toList).length := by simpa using h2
      simp [Sort.putCells, h3]
  · have hj2 : j ≠ g := fun e => hn (by rw [e]; exact List.mem_singleton.2 rfl)
    simp only [Array.getElem?_append, Array.size_modify, hj, if_true, Array.getElem?_modify, Ne.symm hj2, if_false]
end
end Go.Proofs.Ytamghlneoglfnaa
