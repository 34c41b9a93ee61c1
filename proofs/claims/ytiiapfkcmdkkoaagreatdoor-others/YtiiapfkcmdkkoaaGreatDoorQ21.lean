import Derived.Test.YtiiapfkcmdkkoaaGreatDoorQ13
import Derived.Test.YtiiapfkcmdkkoaaGreatDoorQ20
/-
  A queue of bytes: drop, isFull, admit.
-/
namespace Go.Proofs.YtiiapfkcmdkkoaaGreatDoor
open Go.RowKit Go.MapKept

/-- A call of a function of two arguments, as one step of a region that draws. -/
theorem step_call2 {ops : Array Oper} {o : Oper} {a : Act} {w : World} {K : Act → World → Prop} {Q : Exit → Act → World → Prop} {E : Prop} {f : Nat} {v u : Value} {ts : Array TypeId} (R : Value → World → Prop)
    (hg : o.guard = none) (x y : Operand) (hop : o.op = Op.call { callee := Callee.value (.func f), args := #[x, y], argTypes := ts }) (hent : Ent f) (hx : a.eval x = v) (hy : a.eval y = u)
    (hc : Calls Tryz.prog f #[v, u] w fun e w' => ∃ r, e = .returned r ∧ R r w') (hK : ∀ r w', R r w' → K (a.put o.dst r) w') :
    if Region.wanted o (yielded ops a.tmps) = true then Oper.wp Tryz.prog o a w K Q else E := by
  have hw : Region.wanted o (yielded ops a.tmps) = true := by simp [Region.wanted, hg]
  rw [if_pos hw]
  have hrun : (execOp a.eval o).run Tryz.prog w = .ok (.enter f #[v, u]) w := by
    have hf : a.eval (.func f) = .func (.func f) #[] #[] := rfl
    have he := hent #[v, u] w
    simp [execOp, hop, resolve, invoke, hf, hx, hy, Deferred.ofValue, he]
  unfold Oper.wp
  rw [hrun, Oper.upon_enter]
  refine hc.mono ?_
  rintro e w' ⟨r, rfl, hR⟩
  exact hK r w' hR
theorem Calls.ret {f : Nat} {vs : Array Value} {w : World} {v : Value} {R : World → Prop} (h : Calls Tryz.prog f vs w fun e w' => e = .returned v ∧ R w') : Calls Tryz.prog f vs w fun e w' => ∃ r, e = .returned r ∧ (r = v ∧ R w') :=
  h.mono (by rintro e w' ⟨rfl, h⟩; exact ⟨_, rfl, rfl, h⟩)
theorem ent111 : Ent 111 := enters_of Tryz.func111 (by kernel_rfl) rfl
theorem ba_list (l : ByteArray) : (⟨l.data.toList.toArray⟩ : ByteArray) = l := by
  apply ByteArray.ext
  exact Array.toArray_toList

theorem Row.first {w : World} {ao : Option Addr} {m cp : Nat} {bs : List UInt8} (h : Row w (.slice ao m cp) bs) (n : Nat) (hn : n ≤ bs.length) : Row w (.slice ao n cp) (bs.take n) := by
  rcases h.2 with ⟨h1, h2⟩ | ⟨g, cap, cur, hv, hg, hh, hnc, hcm, hcs, htake⟩
  · have : bs = [] := List.eq_nil_of_length_eq_zero h2
    subst this
    have hn0 : n = 0 := by simpa using hn
    subst hn0
    cases h1
    exact Row.nil w
  · cases hv
    have hl : (bs.take n).length = n := by rw [List.length_take]; omega
    refine ⟨by simp, Or.inr ⟨g, cp, cur, by rw [hl], hg, hh, by rw [hl]; omega, hcm, hcs, ?_⟩⟩
    rw [hl, Nat.mul_one]
    rw [Nat.mul_one] at htake
    have := congrArg (List.take n) htake
    rw [List.take_take, Nat.min_eq_left hn] at this
    rw [this, List.map_take]

set_option maxHeartbeats 800000 in
set_option maxRecDepth 100000 in
theorem qdrop_any {w : World} {b i : Nat} {cs : Array Value} {t : TypeId} {v : Value} {bs : List UInt8} (h : Hid (Qu w b i cs t v bs)) (most : Nat) :
    Calls Tryz.prog 51 #[.pointer (some ⟨b, i, none⟩), .int .i64 most] w fun e w' => e = .returned (.string ⟨(bs.take most).toArray⟩) ∧ QAt w w' b i cs t v (bs.drop most) := by
  obtain ⟨n, hn, hn1, e1, e2⟩ : ∃ n : Nat, min (most : Int) bs.length = n ∧ n ≤ bs.length ∧ bs.take most = bs.take n ∧ bs.drop most = bs.drop n := by
    by_cases hl : most ≤ bs.length
    · exact ⟨most, by omega, hl, rfl, rfl⟩
    · exact ⟨bs.length, by omega, Nat.le_refl _, by rw [List.take_of_length_le (by omega), List.take_length], by rw [List.drop_eq_nil_of_le (by omega), List.drop_length]⟩
  rw [e1, e2]
  have HS := hid (qsize_any h)
  clear e1 e2
  go_enter Tryz.func51, Tryz.ntmps51
  go_wp2_with fail
  refine HS.out.mono ?_
  rintro e w1 ⟨rfl, hu1⟩
  have HU1 := hid hu1
  have H1 := hid (h.out.keep hu1)
  have c0 := H1.out.cell
  obtain ⟨ao, cp, hv, hcp⟩ := row_slice2 H1.out.row
  have hst := row_string (Row.first (hv ▸ H1.out.row) n hn1)
  have HD := hid (delete_front w1 v bs H1.out.row n hn1)
  subst hv
  clear hu1 HS
  go_wp2_with fail
  refine HD.out.mono ?_
  rintro e w2 ⟨v', rfl, hr2, hu2, ho2⟩
  have HE := hid (QAt.after HU1.out (QAt.of H1.out (Upd.refl _ w1) hr2 hu2 (fun k hk => Or.inl (by rw [← ho2]; exact hk))))
  have hb' : w2.heap[b]? = some (.cells cs t (0, 0)) := hu2.keep H1.out.blk H1.out.far
  have d0 : w2.cell? ⟨b, i, none⟩ = some (.slice ao bs.length cp) := (cell_of_heap hb' i).trans H1.out.at_
  have g0 : w2.frozen? ⟨b, i, none⟩ = false := unfrozen_of_heap hb' i
  obtain ⟨ao', cp', rfl⟩ := row_slice hr2
  rw [List.length_drop] at HE
  clear hr2 hu2 ho2 hb' hst HD
  go_wp2
  go_ret
  exact ⟨rfl, HE.out⟩

set_option maxHeartbeats 400000 in
theorem isFull_any {w : World} {b i : Nat} {cs : Array Value} {t : TypeId} {v : Value} {bs : List UInt8} (h : Hid (Qu w b i cs t v bs)) (hl : bs.length ≤ 1000000) :
    Calls Tryz.prog 88 #[.pointer (some ⟨b, i, none⟩)] w fun e w' => e = .returned (.bool (decide (250 ≤ bs.length))) ∧ Same w w' := by
  have HS := hid (qsize_any h)
  go_enter Tryz.func88, Tryz.ntmps88
  go_wp2_with fail
  refine HS.out.mono ?_
  rintro e w1 ⟨rfl, hu1⟩
  have HU1 := hid hu1
  clear hu1 HS
  go_wp2
  go_ret
  refine ⟨ret_bool ?_, HU1.out⟩
  simp
  omega

set_option maxHeartbeats 800000 in
set_option maxRecDepth 100000 in
theorem admit_any {w : World} {b i : Nat} {cs : Array Value} {t : TypeId} {v : Value} {bs : List UInt8} (h : Hid (Qu w b i cs t v bs)) (hl : bs.length ≤ 300) (l : ByteArray) (hb : l.size ≤ 140737488355328) :
    Calls Tryz.prog 91 #[.pointer (some ⟨b, i, none⟩), .string l] w fun e w' => e = .returned (.int .i64 (min l.data.toList.length (300 - bs.length) : Nat)) ∧ QAt w w' b i cs t v (bs ++ l.data.toList.take (300 - bs.length)) := by
  have HS := hid (qsize_any h)
  have HL : Hid (l.data.toList.length = l.size) := by show _ = _; rw [Array.length_toList]; rfl
  obtain ⟨n, hn, hn1, e1, e2⟩ : ∃ n : Nat, min (l.size : Int) (300 - bs.length) = n ∧ n ≤ l.size ∧ min l.data.toList.length (300 - bs.length) = n ∧ l.data.toList.take (300 - bs.length) = (l.extract 0 n).data.toList := by
    have hx : ∀ m, (l.extract 0 m).data.toList = l.data.toList.take m := fun m => by
      simp only [ByteArray.data_extract, Array.toList_extract]
      rw [List.extract_eq_take_drop]
      simp
    have := HL.out
    by_cases hc : l.size ≤ 300 - bs.length
    · exact ⟨l.size, by omega, Nat.le_refl _, by omega, by rw [hx, List.take_of_length_le (by omega), List.take_of_length_le (by omega)]⟩
    · exact ⟨300 - bs.length, by omega, by omega, by omega, by rw [hx]⟩
  rw [e1, e2]
  have hnl : n ≤ 300 := by omega
  have hex : (l.extract 0 n).data.toList.length ≤ 300 := by
    rw [← e2, List.length_take]; omega
  clear e1 e2
  go_enter Tryz.func91, Tryz.ntmps91
  go_wp2_with fail
  refine HS.out.mono ?_
  rintro e w1 ⟨rfl, hu1⟩
  have HU1 := hid hu1
  have H1 := hid (h.out.keep hu1)
  have U1 : Same w1 w1.drew := (Upd.refl _ w1).drew
  have HA := qadd_any (hid (H1.out.keep U1)) (l.extract 0 n).data.toList (by omega)
  rw [ba_list] at HA
  have HA' := hid (Calls.ret HA)
  clear hu1 HS HA
  go_wp2_with fail
  go_region_law (
    (refine step_call2 (v := .pointer (some ⟨b, i, none⟩)) (u := .string (l.extract 0 n)) _ rfl (.tmp 16) (.tmp 19) rfl ent111 rfl rfl HA'.out ?_
     rintro r w2 ⟨rfl, hq⟩
     have HE := hid (QAt.after HU1.out (QAt.after U1 hq))
     clear hq))
  all_goals
    go_wp2
    go_ret
    exact ⟨rfl, HE.out⟩

end Go.Proofs.YtiiapfkcmdkkoaaGreatDoor

/-
  Server.read, walked: the request is over, and answered.
-/
namespace Go.Proofs.YtiiapfkcmdkkoaaGreatDoor
open Go.RowKit Go.MapKept

theorem ent112 : Ent 112 := enters_of Tryz.func112 (by kernel_rfl) rfl

/-- What stands behind an answer that was put. -/
def PutAt (w wx : World) (c : Nat) (iv : Int) (dv uv ov : Value) (out : List UInt8) : Prop :=
  ∃ ov', Row wx ov' out ∧ wx.heap[c]? = some (.cells #[dv, .int .i64 iv, uv, ov'] 77 (0, 0)) ∧ Upd (fun k => k = c ∨ ov.ownBlock = some k) w wx ∧ (∀ k, ov'.ownBlock = some k → ov.ownBlock = some k ∨ (w.heap.size ≤ k ∧ k < wx.heap.size))

theorem PutAt.after {w w1 wx : World} {c : Nat} {iv : Int} {dv uv ov : Value} {out : List UInt8} (hu : Same w w1) (h : QAt w1 wx c 3 #[dv, .int .i64 iv, uv, ov] 77 ov out) : PutAt w wx c iv dv uv ov out := by
  obtain ⟨v', h1, h2, h3, h4⟩ := QAt.after hu h
  exact ⟨v', h1, by simpa using h2, h3, h4⟩
theorem PutAt.last {w wx : World} {c : Nat} {iv : Int} {dv dv' uv ov : Value} {out : List UInt8} (h : PutAt w wx c iv dv uv ov out) : PutAt w (wx.setCell ⟨c, 0, none⟩ dv') c iv dv' uv ov out := by
  obtain ⟨ov', o1, o2, o3, o4⟩ := h
  have UO := Upd.one wx c 0 dv'
  refine ⟨ov', o1.keep UO (by rintro k hk rfl; exact o1.far o2 (by decide) hk), ?_, o3.trans (UO.mono (fun k _ e => Or.inl e)), ?_⟩
  · have := heap_setCell o2 0 dv'
    simpa using this
  · rw [size_setCell]; exact o4

theorem bytes_pos (a : Ans) : a.bytes ≠ [] := by
  unfold Ans.bytes httpL
  simp
theorem bytes_len (a : Ans) (h1 : a.status.length ≤ 100) (h2 : a.length ≤ 100) (h3 : a.text.length ≤ 100) : a.bytes.length ≤ 400 := by
  have hi := itoa_len a.length h2
  unfold Ans.bytes httpL crlf clL ccL
  simp only [List.length_append]
  split <;> split <;> simp <;> omega

/-- The answer stands behind what waits: what was promised of reading. -/
theorem answered {F : Nat → Prop} {w w4 wx : World} {c S s m cm wb made : Nat} {dr : Bool} {x x' : CX} {dv dv4 dv' uv ov ov' : Value} {L' : Texts} {u' : Int} (h : Hid (Cn F w c x dv uv ov)) (HU4 : Hid (Upd (fun k => F k ∨ k = s ∨ k = m) w w4)) (HB4 : Hid (w4.heap[c]? = some (.cells #[dv4, .int .i64 x.id, uv, ov] 77 (0, 0)))) (HRU4 : Hid (Row w4 uv x.unread)) (HS4 : Hid (SrvT w4 S s m cm wb made dr L' u'))
    (o1 : Row wx ov' x'.out) (o2 : wx.heap[c]? = some (.cells #[dv', .int .i64 x'.id, uv, ov'] 77 (0, 0))) (o3 : Upd (fun k => k = c ∨ ov.ownBlock = some k) w4 wx) (o4 : ∀ k, ov'.ownBlock = some k → ov.ownBlock = some k ∨ (w4.heap.size ≤ k ∧ k < wx.heap.size)) (hd : (x'.kind = 0 ∧ dv' = restingV) ∨ (x'.kind = 2 ∧ dv' = leavingV)) (hun : x'.unread = x.unread) (dS : ¬ F S) (ds : ¬ F s) (dm : ¬ F m) :
    ReadP F w wx c S s m cm wb made dr x' L' u' := by
  have hMF : ∀ k, (k = c ∨ ov.ownBlock = some k) → F k := by
    rintro k (rfl | h1)
    · exact h.out.fc
    · exact h.out.fo k h1
  have s1 := HU4.out.size
  have s2 := o3.size
  refine ⟨fun k => F k ∨ (w4.heap.size ≤ k ∧ k < wx.heap.size), dv', uv, ov', ⟨o2, ?_, o1, ?_, Or.inl h.out.fc, fun k hk => Or.inl (h.out.fu k hk), ?_, ?_, ?_⟩, ?_, ?_, ?_⟩
  · rw [hun]
    refine HRU4.out.keep o3 ?_
    rintro k hk (rfl | h1)
    · exact HRU4.out.far HB4.out (by decide) hk
    · exact h.out.sep k hk h1
  · intro k hk h1
    rcases o4 k h1 with h2 | h2
    · exact h.out.sep k hk h2
    · have := HRU4.out.lt k hk; omega
  · intro k hk
    rcases o4 k hk with h2 | h2
    · exact Or.inl (h.out.fo k h2)
    · exact Or.inr h2
  · rintro k (hk | hk)
    · have := h.out.lt k hk; omega
    · exact hk.2
  · rcases hd with h1 | h1
    · exact Or.inl h1
    · exact Or.inr (Or.inr h1)
  · exact HS4.out.keep o3 (fun e => dS (hMF _ e)) (fun e => ds (hMF _ e)) (fun e => dm (hMF _ e))
  · exact HU4.out.trans (o3.mono (fun k _ e => Or.inl (hMF k e)))
  · rintro k (hk | hk)
    · exact Or.inl hk
    · exact Or.inr ⟨by omega, hk.2⟩

set_option maxHeartbeats 1600000 in
set_option maxRecDepth 100000 in
/-- connection.put. -/
theorem put_any' {w : World} {c : Nat} {iv : Int} {dv uv ov : Value} {out : List UInt8} (a : Ans) (hb : Hid (w.heap[c]? = some (.cells #[dv, .int .i64 iv, uv, ov] 77 (0, 0)))) (hr : Hid (Row w ov out)) (hout : out.length ≤ 100000)
    (hans : Hid (a.status.length ≤ 100 ∧ a.length ≤ 100 ∧ a.text.length ≤ 100)) (hT : Hid (∀ W, Same w W → Tab W)) :
    Calls Tryz.prog 89 #[.pointer (some ⟨c, 0, none⟩), ansV a] w fun e w' => e = .returned (.tuple #[]) ∧ PutAt w w' c iv (if a.last then leavingV else dv) uv ov (out ++ a.bytes) := by
  have hlen := bytes_len a hans.out.1 hans.out.2.1 hans.out.2.2
  have HBa : Hid (∀ W, Same w W → Calls Tryz.prog 112 #[ansV a] W fun e w' => e = .returned (.string ⟨a.bytes.toArray⟩) ∧ Upd (fun _ => False) W w') := fun W hW => bytes_any a W (hid (hT.out W hW)) hans.out.1 hans.out.2.1 hans.out.2.2
  generalize hdq : (if a.last = true then leavingV else dv) = dq
  have HDQ := hid hdq
  clear hdq
  unfold ansV at *
  go_enter Tryz.func89, Tryz.ntmps89
  go_wp2_with fail
  generalize hn : w.heap.size = n
  generalize hw4 : w.alloc (.cells #[.string ⟨a.status.toArray⟩, .int .i64 a.length, .string ⟨a.text.toArray⟩, .bool a.last] 156) = w4
  have U4 : Same w w4 := by rw [← hw4]; exact (Upd.refl _ _).alloc _
  have hbn : w4.heap[n]? = some (.cells #[.string ⟨a.status.toArray⟩, .int .i64 a.length, .string ⟨a.text.toArray⟩, .bool a.last] 156 (0, 0)) := by rw [← hw4, ← hn]; exact heap_alloc_new w _
  have hq4 : Qu w4 c 3 #[dv, .int .i64 iv, uv, ov] 77 ov out := ⟨U4.keep hb.out (fun h => h), rfl, hr.out.keep U4 (fun _ _ h => h), by decide⟩
  have hnc : n ≠ c := by rw [← hn]; have := lt_of_heap hb.out; omega
  have hnl4 := lt_of_heap hbn
  have hno : ov.ownBlock ≠ some n := hq4.row.far hbn (by decide)
  have n0 := cell_of_heap hbn 0
  have n1 := cell_of_heap hbn 1
  have n2 := cell_of_heap hbn 2
  have n3 := cell_of_heap hbn 3
  simp only [List.getElem?_toArray, List.getElem?_cons_zero, List.getElem?_cons_succ] at n0 n1 n2 n3
  have HU4 := hid U4
  have HQ4 := hid hq4
  have HBN := hid hbn
  have HBb := hid (Calls.ret (HBa.out w4.drew (U4.trans (Upd.refl _ w4).drew)))
  clear U4 hq4 hbn hw4 hn HBa hT hans
  go_cut [0, 3] (fun v u wx => v = .pointer (some ⟨c, 0, none⟩) ∧ u = .pointer (some ⟨n, 0, none⟩) ∧ Hid (PutAt w4 wx c iv dv uv ov (out ++ a.bytes)))
  case first =>
    go_region_law (
      (first
        | (refine step_call1 (v := .agg #[.string ⟨a.status.toArray⟩, .int .i64 a.length, .string ⟨a.text.toArray⟩, .bool a.last]) _ rfl (.tmp 8) rfl ent112 (by simp [Act.eval]) HBb.out ?_
           rintro r w5 ⟨rfl, hu5⟩
           have hu5' : Same w4 w5 := (Upd.refl _ w4).drew.trans hu5
           have HA := hid (Calls.ret (qadd_any (hid (HQ4.out.keep hu5')) a.bytes (by omega)))
           have HU5 := hid hu5'
           clear hu5 hu5')
        | (refine step_call2 (v := .pointer (some ⟨c, 3, none⟩)) (u := .string ⟨a.bytes.toArray⟩) _ rfl (.tmp 7) (.tmp 9) rfl ent111 (by first | rfl | simp [Act.eval]) (by first | rfl | simp [Act.eval]) HA.out ?_
           rintro r w6 ⟨rfl, hq6⟩
           have HF := hid (PutAt.after HU5.out hq6)
           clear hq6)))
    all_goals
      go_wp2_with fail
      go_meet
      exact ⟨rfl, rfl, HF⟩
  case rest =>
    obtain ⟨rfl, rfl, ho⟩ := hcut
    have HP : Hid (PutAt w wc c iv dv uv ov (out ++ a.bytes)) := by
      obtain ⟨ov', o1, o2, o3, o4⟩ := ho.out
      refine ⟨ov', o1, o2, (HU4.out.mono (fun _ _ h => h.elim)).trans o3, fun k hk => ?_⟩
      rcases o4 k hk with h1 | h1
      · exact Or.inl h1
      · right; have := HU4.out.size; omega
    obtain ⟨ov', o1, o2, o3, o4⟩ := ho.out
    have n3' : wc.cell? ⟨n, 3, none⟩ = some (.bool a.last) := (o3.cell hnl4 (by rintro (h1 | h1); exact hnc h1; exact hno h1)).trans n3
    have p0 := cell_of_heap o2 0
    have p0' := unfrozen_of_heap o2 0
    simp only [List.getElem?_toArray, List.getElem?_cons_zero] at p0
    have HP2 := hid (HP.out.last (dv' := leavingV))
    unfold leavingV at HP2
    clear o1 o2 o3 o4 ho n0 n1 n2 n3
    cases hl : a.last
    · rw [hl] at n3'
      go_wp2_with fail
      exact bodyPost_end (v := .tuple #[]) (by simp [results, Tryz.results89, go_sem]) rfl ⟨rfl, by have := HDQ.out; rw [hl] at this; rw [← this]; exact HP.out⟩
    · rw [hl] at n3'
      go_wp2_with fail
      exact bodyPost_end (v := .tuple #[]) (by simp [results, Tryz.results89, go_sem]) rfl ⟨rfl, by have := HDQ.out; rw [hl] at this; rw [← this]; exact HP2.out⟩

set_option maxHeartbeats 1600000 in
set_option maxRecDepth 100000 in
theorem sread_over {N : Nat} {F G : Nat → Prop} {I : List Int} {W : Wst} {w : World} {c S s m cm wb made : Nat} {dr : Bool} {x : CX} {dv uv ov : Value} {L : Texts} {u : Int} (h : Hid (Cn F w c x dv uv ov)) (hs : Hid (SrvT w S s m cm wb made dr L u)) (dS : ¬ F S) (ds : ¬ F s) (dm : ¬ F m)
    (hk : x.kind ≠ 2) (hct : x.σ.count ≤ 1000000000) (b : UInt8) (g2 : Hid (Good (x.rd.read b))) (ht : (x.rd.read b).tag = 0) (hbody : (x.rd.read b).body.length ≤ 100)
    (hL : Hid (∀ p ∈ L, p.2.length ≤ 100)) (hu0 : -100000 ≤ u) (hu1 : u ≤ 100000) (hout : x.out.length ≤ 100000) (hT : Hid (Tb N w)) (hN : Hid ((∀ k, F k → N ≤ k) ∧ N ≤ s ∧ N ≤ m ∧ N ≤ w.heap.size))
    (hans : Hid ((replyAns L u dr (x.rd.read b).req).status.length ≤ 100 ∧ (replyAns L u dr (x.rd.read b).req).length ≤ 100 ∧ (replyAns L u dr (x.rd.read b).req).text.length ≤ 100)) (hby : Hid (WBy N F G I w S s m wb W)) (hI : x.id ∈ I) :
    Calls Tryz.prog 69 #[.pointer (some ⟨S, 0, none⟩), .pointer (some ⟨c, 0, none⟩), .int .u8 b.toNat] w fun e w' => e = .returned (.tuple #[]) ∧ ReadX F G I W w w' c S s m cm wb made dr (x.next L u dr b) (x.nextL L u b) (x.nextU L u b) := by
  have HX : Hid (x.next L u dr b = { x with kind := if (replyAns L u dr (x.rd.read b).req).last then 2 else 0, out := x.out ++ (replyAns L u dr (x.rd.read b).req).bytes } ∧ x.nextL L u b = replyL L u (x.rd.read b).req ∧ x.nextU L u b = replyU L u (x.rd.read b).req) := by
    show _ ∧ _ ∧ _
    unfold CX.next CX.nextL CX.nextU; rw [if_pos ht, if_pos ht, if_pos ht]; exact ⟨rfl, rfl, rfl⟩
  rw [HX.out.1, HX.out.2.1, HX.out.2.2]
  clear HX
  generalize hA : replyAns L u dr (x.rd.read b).req = a at hans ⊢
  generalize hA1 : replyL L u (x.rd.read b).req = L'
  generalize hA2 : replyU L u (x.rd.read b).req = u'
  generalize hkd : (if a.last then 2 else 0) = kd
  have HQ : Hid ((x.rd.read b).req.target.length ≤ 1000 ∧ (x.rd.read b).req.body.length ≤ 100) := ⟨by show (47 :: (x.rd.read b).path).length ≤ 1000; have := g2.out.size 5 (by simp [IsRow]); simp only [RS.get] at this; simp; omega, hbody⟩
  obtain ⟨ty, rv, f, Gr, rfl, hm, hent, hG, hcall⟩ := doing_calls h.out hk hct b g2.out
  obtain ⟨c0, c1, c2, c3, f0, f1, f2, f3⟩ := h.out.blk'
  have hcl := lt_of_heap h.out.blk
  have HG := hid hG
  have HC := hid hcall
  have HT0 := hid ht
  have hcS : c ≠ S := fun e => dS (e ▸ h.out.fc)
  have hcs : c ≠ s := fun e => ds (e ▸ h.out.fc)
  have hcm : c ≠ m := fun e => dm (e ▸ h.out.fc)
  clear hG hcall ht hbody
  generalize x.rd.read b = σ' at *
  go_enter Tryz.func69, Tryz.ntmps69
  go_wp2_with fail
  refine HC.out.mono ?_
  rintro e w1 ⟨r, F1, k1, k2, k3, k4⟩
  obtain ⟨p, rfl, hp1, hp2, hp3⟩ : ∃ p, e = .returned (.tuple #[restingV, .pointer (some ⟨p, 0, none⟩)]) ∧ w1.heap[p]? = some (.cells (reqCells σ'.req) 160 (0, 0)) ∧ w.heap.size ≤ p ∧ p < w1.heap.size := by
    rcases k4 with ⟨k5, _⟩ | ⟨_, p, h1, h2, h3, h4⟩
    · exact absurd HT0.out k5
    · exact ⟨p, h1, h2, h3, h4⟩
  clear k4
  have hcn : ¬ Gr c := fun e => (HG.out c e).2.1 rfl
  have d0 : w1.cell? ⟨c, 0, none⟩ = some (.iface ty rv) := (k2.cell hcl hcn).trans c0
  have g0 : w1.frozen? ⟨c, 0, none⟩ = false := (k2.frozen hcl hcn).trans f0
  have hpc : p ≠ c := by omega
  -- behind the store of what it does now
  have U1 : Upd F w w1 := k2.mono (fun k _ hk => (HG.out k hk).1)
  have UO := Upd.one w1 c 0 restingV
  have U2 : Upd F w (w1.setCell ⟨c, 0, none⟩ restingV) := U1.trans (UO.mono (by rintro k _ rfl; exact h.out.fc))
  have hb1 : w1.heap[c]? = some (.cells #[.iface ty rv, .int .i64 x.id, uv, ov] 77 (0, 0)) := k2.keep h.out.blk hcn
  have hb2 : (w1.setCell ⟨c, 0, none⟩ restingV).heap[c]? = some (.cells #[restingV, .int .i64 x.id, uv, ov] 77 (0, 0)) := by
    have := heap_setCell hb1 0 restingV
    simpa using this
  have ru1 : Row w1 uv x.unread := h.out.ru.keep k2 (fun k hk e => (HG.out k e).2.2.1 hk)
  have ro1 : Row w1 ov x.out := h.out.ro.keep k2 (fun k hk e => (HG.out k e).2.2.2 hk)
  have ru2 : Row (w1.setCell ⟨c, 0, none⟩ restingV) uv x.unread := ru1.keep UO (by rintro k hk rfl; exact ru1.far hb1 (by decide) hk)
  have ro2 : Row (w1.setCell ⟨c, 0, none⟩ restingV) ov x.out := ro1.keep UO (by rintro k hk rfl; exact ro1.far hb1 (by decide) hk)
  have hS2 : SrvT (w1.setCell ⟨c, 0, none⟩ restingV) S s m cm wb made dr L u := hs.out.keep U2 dS ds dm
  have hp2' : (w1.setCell ⟨c, 0, none⟩ restingV).heap[p]? = some (.cells (reqCells σ'.req) 160 (0, 0)) := UO.keep hp1 hpc
  have HK := reply_any (hid hS2) σ'.req HQ.out.1 HQ.out.2 hL hu0 hu1
  rw [hA, hA1, hA2] at HK
  replace HK := hid HK
  clear hA hA1 hA2
  have HU2 := hid U2
  have HB2 := hid hb2
  have HRU := hid ru2
  have HRO := hid ro2
  clear k1 k2 k3 hcn U1 UO U2 hb1 hb2 ru1 ro1 ru2 ro2 hS2 hp1 HC
  have hsz2 : (w1.setCell ⟨c, 0, none⟩ restingV).heap.size = w1.heap.size := size_setCell _ _ _
  have hsz12 : w.heap.size ≤ w1.heap.size := by have := HU2.out.size; rw [hsz2] at this; exact this
  have q0 := cell_of_heap hp2' 0
  have q1 := cell_of_heap hp2' 1
  have q2 := cell_of_heap hp2' 2
  have q3 := cell_of_heap hp2' 3
  have q4 := cell_of_heap hp2' 4
  clear hp2'
  unfold reqCells at *
  simp only [List.getElem?_toArray, List.getElem?_cons_zero, List.getElem?_cons_succ] at q0 q1 q2 q3 q4
  unfold restingV at *
  go_wp2_with fail
  refine HK.out.mono ?_
  rintro e w3 ⟨rfl, hu3, hs3⟩
  have HA := hid hans.out
  clear hans HK
  have hcl2 : c < (w1.setCell ⟨c, 0, none⟩ (.iface 67 (.agg #[]))).heap.size := lt_of_heap HB2.out
  have hb3 : w3.heap[c]? = some (.cells #[.iface 67 (.agg #[]), .int .i64 x.id, uv, ov] 77 (0, 0)) := hu3.keep HB2.out (by rintro (rfl | rfl); exact hcs rfl; exact hcm rfl)
  have hFar : ∀ v : Value, (∀ k, v.ownBlock = some k → F k) → ∀ k, v.ownBlock = some k → ¬ (k = s ∨ k = m) := by
    rintro v hv k hk (rfl | rfl)
    · exact ds (hv _ hk)
    · exact dm (hv _ hk)
  have ru3 : Row w3 uv x.unread := HRU.out.keep hu3 (hFar uv h.out.fu)
  have ro3 : Row w3 ov x.out := HRO.out.keep hu3 (hFar ov h.out.fo)
  have U3 : Upd (fun k => F k ∨ k = s ∨ k = m) w w3 := (HU2.out.mono (fun k _ h => Or.inl h)).trans (hu3.mono (fun k _ h => Or.inr h))
  have HTb : Hid (∀ W, Same w3 W → Tab W) := by
    intro W hW
    have U : Upd (fun k => F k ∨ k = s ∨ k = m) w W := U3.trans (hW.mono (fun _ _ h => h.elim))
    refine (hT.out W (U.below hN.out.2.2.2 (fun k hk => ?_))).1
    rintro (h1 | rfl | rfl)
    · exact absurd (hN.out.1 k h1) (by omega)
    · exact absurd hN.out.2.1 (by omega)
    · exact absurd hN.out.2.2.1 (by omega)
  have HP := hid (put_any' a (hid hb3) (hid ro3) hout HA HTb)
  have HU3 := hid U3
  have HB3 := hid hb3
  have HRU3 := hid ru3
  have HS3 := hid hs3
  clear hu3 hs3 hb3 hFar ru3 ro3 U3 q0 q1 q2 q3 q4 HB2 HRU HRO HU2 hm hent hsz2 hsz12 hp2 hp3 d0 g0 c0 c1 c2 c3 f0 f1 f2 f3 hcl2
  unfold ansV at HP ⊢
  go_wp2_with fail
  refine HP.out.mono ?_
  rintro e w4 ⟨rfl, ov', o1, o2, o3, o4⟩
  have HE : Hid (ReadP F w w4 c S s m cm wb made dr { x with kind := kd, out := x.out ++ a.bytes } L' u') := by
    refine answered h HU3 HB3 HRU3 HS3 o1 o2 o3 o4 ?_ rfl dS ds dm
    cases hl : a.last
    · rw [hl] at hkd; left; exact ⟨hkd.symm, rfl⟩
    · rw [hl] at hkd; right; exact ⟨hkd.symm, rfl⟩
  have HSt := hid (settle_after HE.out hby.out hI hT.out hN.out)
  clear o1 o2 o3 o4 HE HP
  go_wp2_with fail
  refine HSt.out.mono ?_
  rintro e w5 ⟨rfl, hx5⟩
  have HX5 := hid hx5
  clear hx5 HSt
  go_wp2
  exact bodyPost_end (v := .tuple #[]) (by simp [results, Tryz.results69, go_sem]) rfl ⟨rfl, HX5.out⟩

end Go.Proofs.YtiiapfkcmdkkoaaGreatDoor
