import Derived.Test.YtllhgcfacgiabaaGreatAmC
import Derived.Test.YtllhgcfacgiabaaGreatProg
import Derived.IntWalk
namespace Go.Proofs.YtllhgcfacgiabaaGreat
open Go.Am
abbrev tt:Tab:=[(2,⟨1,8,[.int .i64 0],.word,some .i64,[]⟩),
 (3,⟨1,8,[.int .i64 0],.word,some .i64,[]⟩),
 (4,⟨1,1,[.bool false],.bool,none,[]⟩),
 (5,⟨1,1,[.int .u8 0],.word,some .u8,[]⟩),
 (9,⟨1,16,[.string ⟨#[]⟩],.str,none,[]⟩),
 (12,⟨1,8,[.int .u64 0],.word,some .u64,[]⟩),
 (20,⟨1,16,[.nilIface],.word,none,[]⟩),
 (21,⟨1,4,[.int .i32 0],.word,some .i32,[]⟩),
 (22,⟨1,24,[.slice none 0 0],.slice 159,none,[]⟩),
 (23,⟨2,32,[.int .i64 0,.slice none 0 0],.struct [(0,1,false),(1,1,false)],none,[]⟩),
 (24,⟨2,32,[.int .i64 0,.slice none 0 0],.struct [(0,1,false),(1,1,false)],none,[]⟩),
 (27,⟨1,24,[.slice none 0 0],.slice 103,none,[]⟩),
 (28,⟨2,32,[.int .i64 0,.slice none 0 0],.struct [(0,1,false),(1,1,false)],none,[]⟩),
 (29,⟨2,32,[.int .i64 0,.slice none 0 0],.struct [(0,1,false),(1,1,false)],none,[]⟩),
 (33,⟨1,24,[.slice none 0 0],.slice 126,none,[]⟩),
 (34,⟨5,56,[.int .i64 0,.int .i64 0,.int .i64 0,.int .i64 0,.slice none 0 0],.struct [(0,1,false),(1,1,false),(2,1,false),(3,1,false),(4,1,false)],none,[]⟩),
 (35,⟨5,56,[.int .i64 0,.int .i64 0,.int .i64 0,.int .i64 0,.slice none 0 0],.struct [(0,1,false),(1,1,false),(2,1,false),(3,1,false),(4,1,false)],none,[]⟩),
 (37,⟨4,48,[.int .i64 0,.int .i64 0,.int .i64 0,.slice none 0 0],.struct [(0,1,false),(1,1,false),(2,2,true)],none,[]⟩),
 (38,⟨4,48,[.int .i64 0,.int .i64 0,.int .i64 0,.slice none 0 0],.struct [(0,1,false),(1,1,false),(2,2,true)],none,[]⟩),
 (40,⟨1,24,[.slice none 0 0],.slice 133,none,[]⟩),
 (41,⟨5,56,[.int .i64 0,.int .i64 0,.int .i64 0,.int .i64 0,.slice none 0 0],.struct [(0,1,false),(1,1,false),(2,1,false),(3,1,false),(4,1,false)],none,[]⟩),
 (42,⟨5,56,[.int .i64 0,.int .i64 0,.int .i64 0,.int .i64 0,.slice none 0 0],.struct [(0,1,false),(1,1,false),(2,1,false),(3,1,false),(4,1,false)],none,[]⟩),
 (50,⟨2,16,[.int .i64 0,.int .i64 0],.struct [(0,1,false),(1,1,false)],none,[.int .i64,.int .i64]⟩),
 (51,⟨2,16,[.int .i64 0,.int .i64 0],.struct [(0,1,false),(1,1,false)],none,[.int .i64,.int .i64]⟩),
 (56,⟨1,24,[.slice none 0 0],.slice 184,none,[]⟩),
 (57,⟨4,64,[.int .i64 0,.int .i64 0,.slice none 0 0,.slice none 0 0],.struct [(0,1,false),(1,1,false),(2,1,false),(3,1,false)],none,[]⟩),
 (58,⟨4,64,[.int .i64 0,.int .i64 0,.slice none 0 0,.slice none 0 0],.struct [(0,1,false),(1,1,false),(2,1,false),(3,1,false)],none,[]⟩),
 (62,⟨1,24,[.slice none 0 0],.slice 2,none,[]⟩),
 (63,⟨2,32,[.int .i64 0,.slice none 0 0],.struct [(0,1,false),(1,1,false)],none,[]⟩),
 (64,⟨2,32,[.int .i64 0,.slice none 0 0],.struct [(0,1,false),(1,1,false)],none,[]⟩),
 (69,⟨3,40,[.int .i64 0,.int .i64 0,.slice none 0 0],.struct [(0,1,false),(1,1,false),(2,1,false)],none,[]⟩),
 (70,⟨3,40,[.int .i64 0,.int .i64 0,.slice none 0 0],.struct [(0,1,false),(1,1,false),(2,1,false)],none,[]⟩),
 (78,⟨6,64,[.int .i64 0,.int .i64 0,.int .i64 0,.int .i64 0,.int .i64 0,.slice none 0 0],.struct [(0,1,false),(1,5,true)],none,[]⟩),
 (79,⟨6,64,[.int .i64 0,.int .i64 0,.int .i64 0,.int .i64 0,.int .i64 0,.slice none 0 0],.struct [(0,1,false),(1,5,true)],none,[]⟩),
 (86,⟨1,8,[.pointer none],.word,none,[]⟩),
 (88,⟨1,24,[.slice none 0 0],.slice 109,none,[]⟩),
 (89,⟨2,32,[.int .i64 0,.slice none 0 0],.struct [(0,1,false),(1,1,false)],none,[]⟩),
 (90,⟨2,32,[.int .i64 0,.slice none 0 0],.struct [(0,1,false),(1,1,false)],none,[]⟩),
 (96,⟨1,8,[.pointer none],.word,none,[]⟩),
 (102,⟨6,64,[.int .i64 0,.int .i64 0,.int .i64 0,.int .i64 0,.int .i64 0,.slice none 0 0],.struct [(0,1,false),(1,5,true)],none,[]⟩),
 (103,⟨6,64,[.int .i64 0,.int .i64 0,.int .i64 0,.int .i64 0,.int .i64 0,.slice none 0 0],.struct [(0,1,false),(1,5,true)],none,[]⟩),
 (108,⟨5,56,[.int .i64 0,.int .i64 0,.int .i64 0,.int .i64 0,.slice none 0 0],.struct [(0,1,false),(1,1,false),(2,1,false),(3,1,false),(4,1,false)],none,[]⟩),
 (109,⟨5,56,[.int .i64 0,.int .i64 0,.int .i64 0,.int .i64 0,.slice none 0 0],.struct [(0,1,false),(1,1,false),(2,1,false),(3,1,false),(4,1,false)],none,[]⟩),
 (123,⟨1,24,[.slice none 0 0],.slice 219,none,[]⟩),
 (124,⟨1,24,[.slice none 0 0],.slice 221,none,[]⟩),
 (125,⟨3,56,[.int .i64 0,.slice none 0 0,.slice none 0 0],.struct [(0,1,false),(1,1,false),(2,1,false)],none,[]⟩),
 (126,⟨3,56,[.int .i64 0,.slice none 0 0,.slice none 0 0],.struct [(0,1,false),(1,1,false),(2,1,false)],none,[]⟩),
 (130,⟨1,24,[.slice none 0 0],.slice 201,none,[]⟩),
 (131,⟨1,24,[.slice none 0 0],.slice 203,none,[]⟩),
 (132,⟨3,56,[.int .i64 0,.slice none 0 0,.slice none 0 0],.struct [(0,1,false),(1,1,false),(2,1,false)],none,[]⟩),
 (133,⟨3,56,[.int .i64 0,.slice none 0 0,.slice none 0 0],.struct [(0,1,false),(1,1,false),(2,1,false)],none,[]⟩),
 (135,⟨1,24,[.slice none 0 0],.slice 230,none,[]⟩),
 (136,⟨9,120,[.int .i64 0,.int .i64 0,.int .i64 0,.int .i64 0,.int .i64 0,.slice none 0 0,.int .i64 0,.slice none 0 0,.slice none 0 0],.struct [(0,1,false),(1,5,true),(6,1,false),(7,1,false),(8,1,false)],none,[]⟩),
 (137,⟨9,120,[.int .i64 0,.int .i64 0,.int .i64 0,.int .i64 0,.int .i64 0,.slice none 0 0,.int .i64 0,.slice none 0 0,.slice none 0 0],.struct [(0,1,false),(1,5,true),(6,1,false),(7,1,false),(8,1,false)],none,[]⟩),
 (140,⟨1,16,[.nilIface],.word,none,[]⟩),
 (141,⟨1,16,[.nilIface],.word,none,[]⟩),
 (149,⟨5,40,[.int .i64 0,.int .i64 0,.int .i64 0,.int .i64 0,.int .i64 0],.struct [(0,1,false),(1,1,false),(2,1,false),(3,1,false),(4,1,false)],none,[.int .i64,.int .i64,.int .i64,.int .i64,.int .i64]⟩),
 (150,⟨5,40,[.int .i64 0,.int .i64 0,.int .i64 0,.int .i64 0,.int .i64 0],.struct [(0,1,false),(1,1,false),(2,1,false),(3,1,false),(4,1,false)],none,[.int .i64,.int .i64,.int .i64,.int .i64,.int .i64]⟩),
 (151,⟨6,64,[.int .i64 0,.int .i64 0,.int .i64 0,.int .i64 0,.int .i64 0,.slice none 0 0],.struct [(0,5,true),(5,1,false)],none,[]⟩),
 (152,⟨6,64,[.int .i64 0,.int .i64 0,.int .i64 0,.int .i64 0,.int .i64 0,.slice none 0 0],.struct [(0,5,true),(5,1,false)],none,[]⟩),
 (158,⟨6,64,[.int .i64 0,.int .i64 0,.int .i64 0,.int .i64 0,.int .i64 0,.slice none 0 0],.struct [(0,1,false),(1,5,true)],none,[]⟩),
 (159,⟨6,64,[.int .i64 0,.int .i64 0,.int .i64 0,.int .i64 0,.int .i64 0,.slice none 0 0],.struct [(0,1,false),(1,5,true)],none,[]⟩),
 (165,⟨1,8,[.pointer none],.word,none,[]⟩),
 (171,⟨1,8,[.pointer none],.word,none,[]⟩),
 (183,⟨6,64,[.int .i64 0,.int .i64 0,.int .i64 0,.slice none 0 0,.int .i64 0,.bool false],.struct [(0,1,false),(1,1,false),(2,1,false),(3,1,false),(4,1,false),(5,1,false)],none,[]⟩),
 (184,⟨6,64,[.int .i64 0,.int .i64 0,.int .i64 0,.slice none 0 0,.int .i64 0,.bool false],.struct [(0,1,false),(1,1,false),(2,1,false),(3,1,false),(4,1,false),(5,1,false)],none,[]⟩),
 (192,⟨1,8,[.pointer none],.word,none,[]⟩),
 (194,⟨1,8,[.int .i64 0],.struct [(0,1,false)],none,[.int .i64]⟩),
 (195,⟨1,8,[.int .i64 0],.struct [(0,1,false)],none,[.int .i64]⟩),
 (200,⟨3,40,[.int .i64 0,.int .i64 0,.slice none 0 0],.struct [(0,1,false),(1,1,false),(2,1,false)],none,[]⟩),
 (201,⟨3,40,[.int .i64 0,.int .i64 0,.slice none 0 0],.struct [(0,1,false),(1,1,false),(2,1,false)],none,[]⟩),
 (202,⟨2,32,[.int .i64 0,.slice none 0 0],.struct [(0,1,false),(1,1,false)],none,[]⟩),
 (203,⟨2,32,[.int .i64 0,.slice none 0 0],.struct [(0,1,false),(1,1,false)],none,[]⟩),
 (205,⟨1,8,[.int .u64 0],.word,some .u64,[]⟩),
 (210,⟨1,8,[.pointer none],.word,none,[]⟩),
 (219,⟨3,40,[.int .i64 0,.int .i64 0,.slice none 0 0],.struct [(0,1,false),(1,1,false),(2,1,false)],none,[]⟩),
 (221,⟨2,32,[.int .i64 0,.slice none 0 0],.struct [(0,1,false),(1,1,false)],none,[]⟩),
 (223,⟨1,24,[.slice none 0 0],.slice 5,none,[]⟩),
 (229,⟨5,72,[.int .i64 0,.slice none 0 0,.slice none 0 0,.int .i64 0,.int .i64 0],.struct [(0,3,true),(3,1,false),(4,1,false)],none,[]⟩),
 (230,⟨5,72,[.int .i64 0,.slice none 0 0,.slice none 0 0,.int .i64 0,.int .i64 0],.struct [(0,3,true),(3,1,false),(4,1,false)],none,[]⟩),
 (233,⟨2,32,[.int .i64 0,.slice none 0 0],.struct [(0,1,false),(1,1,false)],none,[]⟩),
 (234,⟨2,32,[.int .i64 0,.slice none 0 0],.struct [(0,1,false),(1,1,false)],none,[]⟩),
 (241,⟨1,24,[.slice none 0 0],.slice 277,none,[]⟩),
 (245,⟨1,8,[.pointer none],.word,none,[]⟩),
 (261,⟨1,8,[.int .u64 0],.word,some .u64,[]⟩),
 (262,⟨1,24,[.slice none 0 0],.struct [(0,1,false)],none,[]⟩),
 (263,⟨1,24,[.slice none 0 0],.struct [(0,1,false)],none,[]⟩),
 (266,⟨1,8,[.map none],.map 289 184,none,[]⟩),
 (267,⟨1,8,[.map none],.map 289 184,none,[]⟩),
 (275,⟨8,64,[.int .i64 0,.int .i64 0,.int .i64 0,.int .i64 0,.int .i64 0,.int .i64 0,.int .i64 0,.int .i64 0],.array 8 2,none,[]⟩),
 (276,⟨9,72,[.int .i64 0,.int .i64 0,.int .i64 0,.int .i64 0,.int .i64 0,.int .i64 0,.int .i64 0,.int .i64 0,.int .i64 0],.struct [(0,8,true),(8,1,false)],none,[]⟩),
 (277,⟨9,72,[.int .i64 0,.int .i64 0,.int .i64 0,.int .i64 0,.int .i64 0,.int .i64 0,.int .i64 0,.int .i64 0,.int .i64 0],.struct [(0,8,true),(8,1,false)],none,[]⟩),
 (279,⟨1,4,[.int .u32 0],.word,some .u32,[]⟩),
 (282,⟨1,8,[.pointer none],.word,none,[]⟩),
 (283,⟨1,8,[.int .i64 0],.struct [(0,1,false)],none,[.int .i64]⟩),
 (284,⟨1,8,[.int .i64 0],.struct [(0,1,false)],none,[.int .i64]⟩),
 (285,⟨1,8,[.pointer none],.word,none,[]⟩),
 (288,⟨2,16,[.int .i64 0,.int .i64 0],.struct [(0,1,false),(1,1,false)],none,[.int .i64,.int .i64]⟩),
 (289,⟨2,16,[.int .i64 0,.int .i64 0],.struct [(0,1,false),(1,1,false)],none,[.int .i64,.int .i64]⟩),
 (301,⟨1,8,[.int .i64 0],.word,some .i64,[]⟩),
 (305,⟨2,32,[.int .i64 0,.slice none 0 0],.struct [(0,1,false),(1,1,false)],none,[]⟩),
 (306,⟨2,32,[.int .i64 0,.slice none 0 0],.struct [(0,1,false),(1,1,false)],none,[]⟩),
 (312,⟨3,40,[.slice none 0 0,.int .i64 0,.int .i64 0],.struct [(0,1,false),(1,1,false),(2,1,false)],none,[]⟩),
 (313,⟨3,40,[.slice none 0 0,.int .i64 0,.int .i64 0],.struct [(0,1,false),(1,1,false),(2,1,false)],none,[]⟩),
 (316,⟨1,24,[.slice none 0 0],.slice 3,none,[]⟩),
 (319,⟨1,8,[.pointer none],.word,none,[]⟩),
 (321,⟨1,8,[.nilFunc],.word,none,[]⟩),
 (322,⟨10,80,[.nilFunc,.nilFunc,.nilFunc,.nilFunc,.nilFunc,.nilFunc,.nilFunc,.nilFunc,.nilFunc,.nilFunc],.array 10 321,none,[]⟩),
 (339,⟨1,8,[.nilFunc],.word,none,[]⟩),
 (340,⟨1,8,[.pointer none],.word,none,[]⟩)]
theorem Ad:Bg Tryz.prog tt:=b1T (by kernel_rfl) (by kernel_rfl)
end Go.Proofs.YtllhgcfacgiabaaGreat
namespace Go.Am
open Go.RowKit
set_option linter.unusedVariables false
abbrev uv (n:Int):AV:=.val (.int .u8 n)
abbrev ivs (zs:List Int):List (List AV):=zs.map fun z=>[iv z]
abbrev uvs (zs:List Int):List (List AV):=zs.map fun z=>[uv z]
abbrev il (zs:List Int):AV:=.lst (ivs zs)
abbrev ul (zs:List Int):AV:=.lst (uvs zs)
abbrev uv1 (z:Int):List AV:=[uv z]
def Vx (z:Int):Prop:=0<=z/\z<=255
def Du (z:Int):Prop:=-9223372036854775808<=z/\z<=9223372036854775807
def inR (lo hi z:Int):Prop:=lo<=z/\z<=hi
instance (lo hi z:Int):Decidable (inR lo hi z):=inferInstanceAs (Decidable (_/\_))
theorem Aw {k:IntKind} {x y:Int} (h:x=y):some (AV.val (Value.int k x))=some (AV.val (Value.int k y)):=by rw [h]
theorem ivI {x y:Int} (h:x=y):iv x=iv y:=by rw [h]
theorem bvI {x y:Bool} (h:x=y):bv x=bv y:=by rw [h]
theorem b2i {α β:Type} (f:α->List β) (zs:List α) (k:Nat) (h:k < zs.length):(zs.map f).getD k []=f zs[k]:=by
 simp [List.getD_eq_getElem?_getD,h]
theorem A1 {α β:Type} (f:α->List β) (zs:List α) (k:Nat) (h:k < zs.length):(zs.map f).getD (Int.toNat (k:Int)) []=f zs[k]:=b2i f zs k h
theorem Bo {α:Type} (zs:List α) (k:Nat) (h:k < zs.length):zs.take (k + 1)=zs.take k++[zs[k]]:=List.take_succ_eq_append_getElem h
def Pw (zs:List Int):Int:=zs.foldl (fun s b=>(s * 33 + b + 1) % 2147483647) 5381
theorem a0Z (zs:List Int) (b:Int):Pw (zs++[b])=(Pw zs * 33 + b + 1) % 2147483647:=by simp [Pw]
theorem O4 (zs:List Int):0<=Pw zs/\Pw zs<=2147483646:=by
 rcases List.eq_nil_or_concat zs with rfl | ⟨l,b,rfl⟩
 · simp [Pw]
 · rw [List.concat_eq_append,a0Z]; omega
theorem a00 (zs:List Int) (k:Nat) (h:k < zs.length):Pw (zs.take (k + 1))=(Pw (zs.take k) * 33 + zs[k] + 1) % 2147483647:=by
 rw [Bo zs k h,a0Z]
def four (n:Int):List Int:=[n.fdiv (2 ^ 24) % 256,n.fdiv (2 ^ 16) % 256,n.fdiv (2 ^ 8) % 256,n % 256]
theorem X2 (n:Int):(four n).length=4:=rfl
theorem b0K (n:Int):∀ z∈four n,Vx z:=by
 intro z hz
 simp only [four,List.mem_cons,List.not_mem_nil,or_false] at hz
 unfold Vx
 rcases hz with rfl | rfl | rfl | rfl <;> omega
def Gn (l:List Int):List Int:=(l.map four).flatten
theorem Ua (l:List Int):(Gn l).length=4 * l.length:=by
 induction l with
 | nil=>rfl
 | cons a r ih=>simp only [Gn,List.map_cons,List.flatten_cons,List.length_append,X2] at *; simp only [List.length_cons]; omega
theorem X3 (l:List Int) (z:Int):Gn (l++[z])=Gn l++four z:=by simp [Gn]
theorem a3v (l:List Int):∀ z∈Gn l,Vx z:=by
 intro z hz
 simp only [Gn,List.mem_flatten,List.mem_map] at hz
 obtain ⟨_,⟨n,_,rfl⟩,h⟩:=hz
 exact b0K n z h
def Mo (l:List Int):Int:=Pw (Gn l)
theorem V6 (l:List Int):0<=Mo l/\Mo l<=2147483646:=O4 _
def Dg (lo hi:Int) (l:List Int):Bool:=l.all fun z=>decide (lo<=z)&&decide (z<=hi)
theorem O5 {lo hi:Int} {l:List Int} {k:Nat} (h:k < l.length):Dg lo hi (l.take (k + 1))=(Dg lo hi (l.take k)&&(decide (lo<=l[k])&&decide (l[k]<=hi))):=by
 rw [Bo l k h]; unfold Dg; rw [List.all_append]; simp
theorem b0L {lo hi:Int} {l:List Int} (h:Dg lo hi l=true) {k:Nat} (hk:k < l.length):lo<=l[k]/\l[k]<=hi:=by
 have:=List.all_eq_true.1 h l[k] (List.getElem_mem hk)
 simpa using this
theorem R3 {lo hi:Int} {l:List Int} {k:Nat} (hk:k < l.length) (h:¬ (lo<=l[k]/\l[k]<=hi)):Dg lo hi l=false:=by
 cases hb:Dg lo hi l with
 | false=>rfl
 | true=>exact absurd (b0L hb hk) h
theorem Ch {e s:Nat} {x y:List (List AV)} (h:x=y):some (A2.list e s x)=some (A2.list e s y):=by rw [h]
theorem P4 {i x y:Nat} (h:x=y):some (AV.own i x)=some (AV.own i y):=by rw [h]
theorem Vy {α:Type} {g:α->AV} {zs:List α} {r:List AV} (h:r∈zs.map fun z=>[g z]):r.length=1:=by
 obtain ⟨_,_,rfl⟩:=List.mem_map.1 h; rfl
theorem R4 {α β:Type} (f:α->β) {l:List α} {n:Nat} (h:l.length=n):(l.map f).take n=l.map f:=List.take_of_length_le (by simp [h])
theorem R5 {i x y:Nat} (h:x=y):AV.own i x=AV.own i y:=by rw [h]
theorem R6 {i e s:Nat} {x y:List (List AV)} (h:x=y):[(i,A2.list e s x)]=[(i,A2.list e s y)]:=by rw [h]
def Jw (zs:List Int) (k:Nat):List Int:=zs.take k++List.replicate (zs.length - k) 0
theorem Ub (zs:List Int) (k:Nat) (h:k<=zs.length):(Jw zs k).length=zs.length:=by simp only [Jw,List.length_append,List.length_take,List.length_replicate]; omega
theorem Uc (zs:List Int) (k:Nat) (h:k < zs.length):(Jw zs k).set k zs[k]=Jw zs (k + 1):=by
 unfold Jw
 rw [Bo zs k h,show zs.length - k=(zs.length - (k + 1)) + 1 by omega,List.replicate_succ,List.set_append_right _ _ (by rw [List.length_take]; omega),List.length_take]
 have:k - min k zs.length=0:=by omega
 rw [this,List.set_cons_zero,List.append_assoc]; rfl
theorem Ud (zs:List Int):Jw zs zs.length=zs:=by unfold Jw; rw [Nat.sub_self,List.take_length,List.replicate_zero,List.append_nil]
theorem Qu (zs:List Int):Jw zs 0=List.replicate zs.length 0:=by unfold Jw; rw [Nat.sub_zero,List.take_zero,List.nil_append]
theorem setM {α β:Type} (f:α->β) (l:List α) (k:Nat) (x:α):(l.map f).set k (f x)=(l.set k x).map f:=by rw [List.map_set]
theorem b1Y {α β:Type} (f:α->β) (n:Nat) (x:α):List.replicate n (f x)=(List.replicate n x).map f:=by simp
def b1Z (s:Nat) (l:List (List AV)):Bool:=l.all fun r=>Nat.beq r.length s
theorem a3w {s:Nat} {l:List (List AV)} (h:b1Z s l=true):∀ r∈l,r.length=s:=fun r hr=>Nat.eq_of_beq_eq_true (List.all_eq_true.1 h r hr)
abbrev iv1 (z:Int):List AV:=[iv z]
theorem setRow (l:List Int) (k:Nat) (x:Int) (h:k < l.length) (s:Nat) (hs:s=1) :
 (ivs l).set (Int.toNat (k:Int)) (((ivs l).getD (Int.toNat (k:Int)) []).take 0++(iv x).cells++((ivs l).getD (Int.toNat (k:Int)) []).drop (0 + s))=ivs (l.set k x):=by
 subst hs
 rw [A1 iv1 l k h]
 show (l.map iv1).set k (iv1 x)=_
 rw [setM]
def marks (k0 m:Nat):List Int:=(List.range m).map fun j:Nat=>((k0 + j:Nat):Int)
theorem Hq (k0 m:Nat):(marks k0 m).length=m:=by simp [marks]
theorem a5i (k0 m:Nat):marks k0 (m + 1)=marks k0 m++[((k0 + m:Nat):Int)]:=by simp [marks,List.range_succ]
theorem a9s (k0 m j:Nat) (h:j < (marks k0 m).length):(marks k0 m)[j]=((k0 + j:Nat):Int):=by simp [marks]
def Vd (k0:Nat) (zs:List Int) (k:Nat):List Int:=marks k0 k++zs.drop k
theorem a7x (k0:Nat) (zs:List Int) (k:Nat) (h:k<=zs.length):(Vd k0 zs k).length=zs.length:=by
 simp only [Vd,List.length_append,Hq,List.length_drop]; omega
theorem a7y (k0:Nat) (zs:List Int) (k:Nat) (h:k < zs.length):(Vd k0 zs k).set k ((k0 + k:Nat):Int)=Vd k0 zs (k + 1):=by
 unfold Vd
 rw [a5i,List.set_append_right _ _ (by rw [Hq]; omega),Hq,Nat.sub_self,List.drop_eq_getElem_cons h,List.set_cons_zero,List.append_assoc]; rfl
theorem a7z (k0:Nat) (zs:List Int):Vd k0 zs zs.length=marks k0 zs.length:=by unfold Vd; rw [List.drop_length,List.append_nil]
theorem Cm {p:Prop} (h:p:=by first | rfl | omega | (simp (disch:=omega) only [Int.reduceToNat,IntKind.bits,Nat.min_eq_left,Int.reducePow,IntWalk.i64_in,IntWalk.rem_in,IntWalk.i64_quo,IntWalk.u8_in,IntWalk.u32_in,IntWalk.u64_in]; done) | (simp (disch:=omega) only [Int.reduceToNat,IntKind.bits,Nat.min_eq_left,Int.reducePow,IntWalk.i64_in,IntWalk.rem_in,IntWalk.i64_quo,IntWalk.u8_in,IntWalk.u32_in,IntWalk.u64_in]; omega)):p:=h
theorem ktA {p:Prop} (h:p:=by repeat' first | exact trivial | rfl | exact Aw Cm | refine And.intro ?_ ?_ | fail):p:=h
theorem Az {p:Prop} (h:p:=by (first | exact True.intro | omega | (simp only [List.length_map,List.length_take,List.length_drop,List.length_append,List.length_set,List.length_replicate,List.length_cons,List.length_nil,X2,Ua,maxLen] at *; omega))):p:=h
theorem Ky {p:Prop} (h:p:=by (first | (intro r hr; first | exact Vy hr | exact Vy (List.mem_of_mem_take hr)) | (refine a3w ?_; rfl))):p:=h
end Go.Am
namespace Go.Am
set_option linter.unusedVariables false
def opB (op:Int):Bool:=(decide (1<=op)&&decide (op<=9))||(decide (100<=op)&&decide (op<=1099))
theorem a9t (op:Int):opB op=(decide (inR 1 9 op)||decide (inR 100 1099 op)):=by
 rw [Bool.eq_iff_iff]
 simp only [opB,Bool.or_eq_true,Bool.and_eq_true,decide_eq_true_eq]
 exact Iff.rfl
def Qv (p:List Int):Bool:=p.all opB
theorem a01 {p:List Int} {k:Nat} (h:k < p.length):Qv (p.take (k + 1))=(Qv (p.take k)&&opB p[k]):=by
 rw [Bo p k h]; unfold Qv; rw [List.all_append]; simp
theorem R7 {p:List Int} (h:Qv p=true) {k:Nat} (hk:k < p.length):opB p[k]=true:=List.all_eq_true.1 h p[k] (List.getElem_mem hk)
theorem a6G {p:List Int} {k:Nat} (hk:k < p.length) (h:opB p[k]=false):Qv p=false:=by
 cases hb:Qv p with
 | false=>rfl
 | true=>rw [R7 hb hk] at h; cases h
def C3 (p:List Int):Int:=if 12 < p.length then 2 else if Qv p then 0 else 1
def keyB (k:Int):Bool:=decide (inR 0 899 k)
def Ve (k t:Int):Int:=Mo [k,t,7] % 1000
def Vf (k t:Int):List AV:=if inR 0 899 k/\inR 0 2147483646 t then [iv 0,iv (Ve k t)] else [iv 3,iv 0]
def Cp (op:Int):Nat:=if op=1∨op=2∨op=6∨op=7∨op=9 then 1 else if op=3∨op=4∨op=5∨op=8 then 2 else 0
def Kh (b:Bool):Int:=if b then 1 else 0
def Gb (op:Int) (rest:List Int) (top aL:Int):Int × List Int :=
 if op=1 then (0,rest++[top,top]) else if op=7 then (0,rest++[Mo [top] % 1000]) else if op=6/\top=0 then (8,[]) else if op=9/\aL < top then (8,[]) else (0,rest)
def Ii (op:Int) (rest:List Int) (a b text:Int):Int × List Int :=
 if op=3 then (0,rest++[b,a]) else if op=4 then (if 9999 < a + b then (3,[]) else (0,rest++[a + b])) else if op=5 then (0,rest++[Kh (decide (a=b))]) else (0,rest++[Kh (decide (inR 0 899 b)&&decide (Ve b text=a))])
def R8 (op:Int) (s:List Int) (text aL:Int):Int × List Int :=
 if Cp op=0 then (0,s++[op - 100]) else if Cp op=1 then Gb op (s.take (s.length - 1)) (s.getD (s.length - 1) 0) aL
 else Ii op (s.take (s.length - 2)) (s.getD (s.length - 2) 0) (s.getD (s.length - 1) 0) text
def step2 (op:Int) (s:List Int) (text aL:Int):Int × List Int :=
 if s.length < Cp op then (4,[]) else
 if (R8 op s text aL).1=0/\8 < (R8 op s text aL).2.length then (10,[]) else R8 op s text aL
def Mp (text aL:Int):List Int->List Int->Int × List Int
 | [],s=>(0,s)
 | op::p,s=>if (step2 op s text aL).1=0 then Mp text aL p (step2 op s text aL).2 else ((step2 op s text aL).1,[])
def C9 (s:List Int):Int:=if 8 < s.length then 2 else if Dg 0 9999 s then 0 else 3
def Jy (p s:List Int) (text aL:Int):Int :=
 if C3 p=0 then if C9 s=0 then if inR 0 2147483646 text/\inR 0 9999 aL then 0 else 3 else C9 s else C3 p
end Go.Am
namespace Go.Am
open Go.RowKit
set_option linter.unusedVariables false
abbrev InD:=Int × Int × List Int
abbrev Cx:=Int × List Int
abbrev TxD:=Int × List InD × List Cx
abbrev A3 (x:InD):List AV:=[iv x.1,iv x.2.1,il x.2.2]
abbrev Ax (y:Cx):List AV:=[iv y.1,il y.2]
abbrev Et (xs:List InD):AV:=.lst (xs.map A3)
abbrev Dh (ys:List Cx):AV:=.lst (ys.map Ax)
abbrev txC (t:TxD):List AV:=[iv t.1,Et t.2.1,Dh t.2.2]
abbrev txV (t:TxD):AV:=.agg (txC t)
def A8 (n:Int):List Int:=if n < 253 then [n] else [253,n % 256,n / 256]
theorem Ki {n:Int} (h:inR 0 65535 n):∀ z∈A8 n,Vx z:=by
 intro z hz
 unfold A8 at hz
 unfold inR at h
 unfold Vx
 split at hz <;> simp only [List.mem_cons,List.not_mem_nil,or_false] at hz
 · omega
 · rcases hz with rfl | rfl | rfl <;> omega
theorem Cd (n:Int):1<=(A8 n).length/\(A8 n).length<=3:=by unfold A8; split <;> simp
def Mq (v:Int):List Int:=A8 (v % 65536)++A8 (v / 65536)
def Ij (zs:List Int):List Int:=(zs.map A8).flatten
def Kj (zs:List Int):List Int:=A8 zs.length++Ij zs
def M6 (x:InD):List Int:=Mq x.1++A8 x.2.1++Kj x.2.2
def P5 (y:Cx):List Int:=Mq y.1++Kj y.2
def Ff (xs:List InD):List Int:=(xs.map M6).flatten
def Eu (ys:List Cx):List Int:=(ys.map P5).flatten
def E3 (t:TxD):List Int:=A8 t.1++A8 t.2.1.length++Ff t.2.1++A8 t.2.2.length++Eu t.2.2
def Qw (m:Nat) (zs:List Int):Prop:=zs.length<=m/\∀ z∈zs,inR 0 65535 z
def okI (x:InD):Prop:=inR 0 2147483646 x.1/\inR 0 3 x.2.1/\Qw 8 x.2.2
def okO (y:Cx):Prop:=inR 0 2147483646 y.1/\Qw 12 y.2
def okT (t:TxD):Prop:=inR 0 65535 t.1/\t.2.1.length<=4/\t.2.2.length<=4/\(∀ x∈t.2.1,okI x)/\(∀ y∈t.2.2,okO y)
theorem Kk {α:Type} (f:α->List Int) (m:Nat):∀ (l:List α),(∀ x∈l,(f x).length<=m)->((l.map f).flatten).length<=m * l.length
 | [],_=>by simp
 | x::r,h=>by
   have h1:=h x (List.mem_cons_self ..)
   have h2:=Kk f m r fun y hy=>h y (List.mem_cons_of_mem _ hy)
   simp only [List.map_cons,List.flatten_cons,List.length_append,List.length_cons,Nat.mul_succ]; omega
theorem Ue (zs:List Int):(Ij zs).length<=3 * zs.length:=Kk A8 3 zs fun x _=>(Cd x).2
theorem O6 (zs:List Int):(Kj zs).length<=3 + 3 * zs.length:=by
 have h1:=(Cd zs.length).2
 have h2:=Ue zs
 simp only [Kj,List.length_append]; omega
theorem Lj (v:Int):(Mq v).length<=6:=by
 have h1:=(Cd (v % 65536)).2
 have h2:=(Cd (v / 65536)).2
 simp only [Mq,List.length_append]; omega
theorem a7A {x:InD} (h:okI x):(M6 x).length<=36:=by
 have h1:=Lj x.1
 have h2:=(Cd x.2.1).2
 have h3:=O6 x.2.2
 have h4:=h.2.2.1
 simp only [M6,List.length_append]; omega
theorem a7B {y:Cx} (h:okO y):(P5 y).length<=45:=by
 have h1:=Lj y.1
 have h3:=O6 y.2
 have h4:=h.2.1
 simp only [P5,List.length_append]; omega
theorem X4 {xs:List InD} (h:∀ x∈xs,okI x):(Ff xs).length<=36 * xs.length:=Kk M6 36 xs fun x hx=>a7A (h x hx)
theorem Uf {ys:List Cx} (h:∀ x∈ys,okO x):(Eu ys).length<=45 * ys.length:=Kk P5 45 ys fun x hx=>a7B (h x hx)
theorem a02 {t:TxD} (h:okT t):(E3 t).length<=400:=by
 have h1:=(Cd t.1).2
 have h2:=(Cd t.2.1.length).2
 have h3:=(Cd t.2.2.length).2
 have h4:=X4 h.2.2.2.1
 have h5:=Uf h.2.2.2.2
 have h6:=h.2.1
 have h7:=h.2.2.1
 simp only [E3,List.length_append]; omega
theorem X5 {zs:List Int} {k:Nat} (h:k < zs.length):Ij (zs.take (k + 1))=Ij (zs.take k)++A8 zs[k]:=by unfold Ij; rw [Bo zs k h,List.map_append,List.flatten_append]; simp only [List.map_cons,List.map_nil,List.flatten_cons,List.flatten_nil,List.append_nil]
theorem a7C {xs:List InD} {k:Nat} (h:k < xs.length):Ff (xs.take (k + 1))=Ff (xs.take k)++M6 xs[k]:=by unfold Ff; rw [Bo xs k h,List.map_append,List.flatten_append]; simp only [List.map_cons,List.map_nil,List.flatten_cons,List.flatten_nil,List.append_nil]
theorem X6 {xs:List Cx} {k:Nat} (h:k < xs.length):Eu (xs.take (k + 1))=Eu (xs.take k)++P5 xs[k]:=by unfold Eu; rw [Bo xs k h,List.map_append,List.flatten_append]; simp only [List.map_cons,List.map_nil,List.flatten_cons,List.flatten_nil,List.append_nil]
theorem X7 {α:Type} {p:Int->Prop} {f:α->List Int} {l:List α} (h:∀ x∈l,∀ z∈f x,p z):∀ z∈(l.map f).flatten,p z:=by
 intro z hz
 simp only [List.mem_flatten,List.mem_map] at hz
 obtain ⟨_,⟨x,hx,rfl⟩,hz⟩:=hz
 exact h x hx z hz
theorem Jb {p:Int->Prop} {a b:List Int} (h:∀ z∈a,p z) (k:∀ z∈b,p z):∀ z∈a++b,p z:=fun z hz=>(List.mem_append.1 hz).elim (h z) (k z)
theorem a6H {v:Int} (h:inR 0 2147483646 v):∀ z∈Mq v,Vx z:=by
 unfold inR at h
 exact Jb (Ki ⟨by omega,by omega⟩) (Ki ⟨by omega,by omega⟩)
theorem a3x {m:Nat} (hm:m<=65535) {zs:List Int} (h:Qw m zs):∀ z∈Kj zs,Vx z:=Jb (Ki ⟨by omega,by have:=h.1; omega⟩) (X7 fun x hx=>Ki (h.2 x hx))
theorem a3y {t:TxD} (h:okT t):∀ z∈E3 t,Vx z:=by
 obtain ⟨h1,h2,h3,h4,h5⟩:=h
 refine Jb (Jb (Jb (Jb (Ki h1) (Ki ⟨by omega,by omega⟩)) (X7 fun x hx=>?_)) (Ki ⟨by omega,by omega⟩)) (X7 fun y hy=>?_)
 · have:=h4 x hx
   refine Jb (Jb (a6H this.1) (Ki ?_)) (a3x (by decide) this.2.2)
   have:=this.2.1; unfold inR at this ⊢; omega
 · have:=h5 y hy
   exact Jb (a6H this.1) (a3x (by decide) this.2)
end Go.Am
namespace Go.Am
open Go.RowKit
set_option linter.unusedVariables false
end Go.Am
namespace Go.Am
open Go.RowKit
set_option linter.unusedVariables false
def Vz (e:List InD) (x:InD):Bool:=e.any fun y=>decide (y.1=x.1)&&decide (y.2.1=x.2.1)
def inC (e:List InD) (x:InD):Int :=
 if ¬ inR 0 2147483646 x.1 then 3 else if ¬ inR 0 3 x.2.1 then 3 else if C9 x.2.2≠0 then C9 x.2.2 else if Vz e x then 6 else 0
def Gu:List InD->List InD->Int
 | _,[]=>0
 | e,x::r=>if inC e x≠0 then inC e x else Gu (e++[x]) r
def F5 (s:Int):List Cx->Int
 | []=>if inR 0 1000000 s then 0 else 7
 | y::r=>if ¬ inR 0 1000000 y.1 then 3 else if C3 y.2≠0 then C3 y.2 else F5 (s + y.1) r
def A7 (t:TxD):Int :=
 if ¬ inR 0 65535 t.1 then 3 else if 4 < t.2.1.length then 2 else if t.2.2.length < 1 then 2 else if 4 < t.2.2.length then 2 else
 if Gu [] t.2.1≠0 then Gu [] t.2.1 else F5 0 t.2.2
theorem a6I (xs:List InD) (k:Nat) (h:k < xs.length):Gu (xs.take k) (xs.drop k)=if inC (xs.take k) xs[k]≠0 then inC (xs.take k) xs[k] else Gu (xs.take (k + 1)) (xs.drop (k + 1)):=by
 rw [List.drop_eq_getElem_cons h,Gu,Bo xs k h]
theorem a3z (xs:List InD):Gu (xs.take xs.length) (xs.drop xs.length)=0:=by rw [List.drop_length,Gu]
theorem a3A (s:Int) (ys:List Cx) (k:Nat) (h:k < ys.length):F5 s (ys.drop k)=if ¬ inR 0 1000000 ys[k].1 then 3 else if C3 ys[k].2≠0 then C3 ys[k].2 else F5 (s + ys[k].1) (ys.drop (k + 1)):=by
 rw [List.drop_eq_getElem_cons h,F5]
theorem a03 (e:List InD) (x:InD) (k:Nat) (h:k < e.length):Vz (e.take (k + 1)) x=(Vz (e.take k) x||(decide (e[k].1=x.1)&&decide (e[k].2.1=x.2.1))):=by
 rw [Bo e k h]; unfold Vz; rw [List.any_append]; simp
theorem a3B {e:List InD} {x:InD} {k:Nat} (h:k < e.length) (h':(decide (e[k].1=x.1)&&decide (e[k].2.1=x.2.1))=true):Vz e x=true:=List.any_eq_true.2 ⟨_,List.getElem_mem h,h'⟩
def Da (ys:List Cx):List Int:=ys.map (·.1)
def Cf:List Int->Int:=fun l=>l.foldl (· + ·) 0
theorem a7D (l:List Int) (x:Int):Cf (l++[x])=Cf l + x:=by simp [Cf]
theorem Eb (l:List Int) (k:Nat) (h:k < l.length):Cf (l.take (k + 1))=Cf (l.take k) + l[k]:=by rw [Bo l k h,a7D]
theorem a2h (l:List Int) (h:∀ z∈l,inR 0 1000000 z):∀ k,k<=l.length->0<=Cf (l.take k)/\Cf (l.take k)<=1000000 * k
 | 0,_=>by simp [Cf]
 | k + 1,hk=>by
   have h1:=a2h l h k (by omega)
   have h2:=h l[k] (List.getElem_mem (by omega))
   unfold inR at h2
   rw [Eb l k (by omega)]
   omega
theorem a6J (l:List Int) (h:∀ z∈l,inR 0 1000000 z):0<=Cf l/\Cf l<=1000000 * l.length:=by
 have:=a2h l h l.length (Nat.le_refl _)
 rwa [List.take_length] at this
end Go.Am
namespace Go.Am
open Go.RowKit
set_option linter.unusedVariables false
theorem a7E {s:List Int} (h:C9 s=0):s.length<=8/\Dg 0 9999 s=true:=by
 unfold C9 at h
 split at h
 · cases h
 · split at h
   · rename_i h1 h2; exact ⟨by omega,h2⟩
   · cases h
theorem a3C {p:List Int} (h:C3 p=0):p.length<=12/\Qv p=true:=by
 unfold C3 at h
 split at h
 · cases h
 · split at h
   · rename_i h1 h2; exact ⟨by omega,h2⟩
   · cases h
theorem a5j {e:List InD} {x:InD} (h:inC e x=0):inR 0 2147483646 x.1/\inR 0 3 x.2.1/\C9 x.2.2=0/\Vz e x=false:=by
 unfold inC at h
 split at h
 · cases h
 · rename_i h1
   split at h
   · cases h
   · rename_i h2
     split at h
     · rename_i h3; exact absurd h h3
     · rename_i h3
       split at h
       · cases h
       · rename_i h4
         exact ⟨Decidable.not_not.1 h1,Decidable.not_not.1 h2,Decidable.not_not.1 h3,by simpa using h4⟩
theorem a6K:∀ (xs e:List InD),Gu e xs=0->∀ x∈xs,okI x
 | [],_,_,x,hx=>by cases hx
 | y::r,e,h,x,hx=>by
   rw [Gu] at h
   split at h
   · rename_i h1; exact absurd h h1
   · rename_i h1
     obtain ⟨g1,g2,g3,_⟩:=a5j (Decidable.not_not.1 h1)
     rcases List.mem_cons.1 hx with rfl | hx
     · obtain ⟨k1,k2⟩:=a7E g3
       refine ⟨g1,g2,k1,fun z hz=>?_⟩
       have:=List.all_eq_true.1 k2 z hz
       simp at this
       exact ⟨this.1,by omega⟩
     · exact a6K r _ h x hx
theorem a3D:∀ (ys:List Cx) (s:Int),F5 s ys=0->∀ y∈ys,okO y
 | [],_,_,y,hy=>by cases hy
 | x::r,s,h,y,hy=>by
   rw [F5] at h
   split at h
   · cases h
   · rename_i h1
     split at h
     · rename_i h2; exact absurd h h2
     · rename_i h2
       rcases List.mem_cons.1 hy with rfl | hy
       · obtain ⟨k1,k2⟩:=a3C (Decidable.not_not.1 h2)
         have dh:=Decidable.not_not.1 h1
         unfold inR at dh
         refine ⟨⟨dh.1,by omega⟩,k1,fun z hz=>?_⟩
         have:=List.all_eq_true.1 k2 z hz
         unfold opB at this
         simp at this
         unfold inR; omega
       · exact a3D r _ h y hy
theorem Gp {t:TxD} (h:A7 t=0):inR 0 65535 t.1/\t.2.1.length<=4/\1<=t.2.2.length/\t.2.2.length<=4/\Gu [] t.2.1=0/\F5 0 t.2.2=0:=by
 unfold A7 at h
 split at h
 · cases h
 rename_i h1
 split at h
 · cases h
 rename_i h2
 split at h
 · cases h
 rename_i h3
 split at h
 · cases h
 rename_i h4
 split at h
 · rename_i h5; exact absurd h h5
 rename_i h5
 exact ⟨Decidable.not_not.1 h1,by omega,by omega,by omega,Decidable.not_not.1 h5,h⟩
theorem Ev {t:TxD} (h:A7 t=0):okT t:=by
 obtain ⟨h1,h2,h3,h4,h5,h6⟩:=Gp h
 exact ⟨h1,h2,h4,a6K _ _ h5,a3D _ _ h6⟩
theorem a9u {t:TxD} (h1:inR 0 65535 t.1) (h2:t.2.1.length<=4) (h3:1<=t.2.2.length) (h4:t.2.2.length<=4) (h5:Gu [] t.2.1=0) (h6:F5 0 t.2.2=0):A7 t=0:=by
 unfold A7
 rw [if_neg (fun h=>h h1),if_neg (by omega),if_neg (by omega),if_neg (by omega),if_neg (fun h=>h h5)]
 exact h6
def Dl (x:InD):InD:=(x.1,x.2.1,[])
def Ik (t:TxD):TxD:=(t.1,t.2.1.map Dl,t.2.2)
theorem a7F (e:List InD) (x:InD):Vz (e.map Dl) (Dl x)=Vz e x:=by
 unfold Vz; rw [List.any_map]; rfl
theorem a04:∀ (xs e:List InD),Gu e xs=0->Gu (e.map Dl) (xs.map Dl)=0
 | [],e,_=>rfl
 | y::r,e,h=>by
   rw [Gu] at h
   split at h
   · rename_i h1; exact absurd h h1
   · rename_i h1
     obtain ⟨g1,g2,g3,g4⟩:=a5j (Decidable.not_not.1 h1)
     have hz:inC (e.map Dl) (Dl y)=0:=by
      unfold inC
      rw [if_neg (fun h=>h g1),if_neg (fun h=>h g2),if_neg (by show ¬ C9 []≠0; decide),a7F,g4]; rfl
     rw [List.map_cons,Gu,if_neg (fun h=>h hz)]
     have:=a04 r (e++[y]) h
     rw [List.map_append] at this
     exact this
theorem X8 {t:TxD} (h:A7 t=0):A7 (Ik t)=0:=by
 obtain ⟨h1,h2,h3,h4,h5,h6⟩:=Gp h
 refine a9u h1 (by simpa [Ik] using h2) h3 h4 (a04 _ [] h5) h6
theorem a5k (x:InD):M6 (Dl x)=Mq x.1++A8 x.2.1++[0]:=by
 have:Kj []=[0]:=by unfold Kj Ij A8; rw [if_pos (by decide)]; rfl
 unfold M6 Dl; rw [this]
theorem Bu (zs:List Int):∀ r∈ivs zs,∀ c∈r,∃ u,c=AV.val u:=by
 intro r hr c hc
 simp only [List.mem_map] at hr
 obtain ⟨z,_,rfl⟩:=hr
 simp only [List.mem_singleton] at hc
 exact ⟨_,hc⟩
end Go.Am
