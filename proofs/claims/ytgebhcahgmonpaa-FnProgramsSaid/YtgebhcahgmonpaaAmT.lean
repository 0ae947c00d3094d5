/-
  The types of this program, as they are read.
-/
import Derived.Test.YtgebhcahgmonpaaAmC
import Derived.Test.YtgebhcahgmonpaaProg
namespace Go.Proofs.Ytgebhcahgmonpaa
open Go.Am
abbrev tt : Tab := [(2, ⟨1, 8, [.int .i64 0], .word, some .i64⟩),
  (3, ⟨1, 8, [.int .i64 0], .word, some .i64⟩),
  (4, ⟨1, 1, [.bool false], .bool, none⟩),
  (5, ⟨1, 1, [.int .u8 0], .word, some .u8⟩),
  (9, ⟨1, 16, [.string ⟨#[]⟩], .str, none⟩),
  (12, ⟨1, 8, [.int .u64 0], .word, some .u64⟩),
  (20, ⟨1, 16, [.nilIface], .word, none⟩),
  (21, ⟨1, 4, [.int .i32 0], .word, some .i32⟩),
  (22, ⟨1, 24, [.slice none 0 0], .slice 5, none⟩),
  (26, ⟨1, 24, [.slice none 0 0], .slice 2, none⟩),
  (27, ⟨2, 32, [.int .i64 0, .slice none 0 0], .struct [(0, 1, false), (1, 1, false)], none⟩),
  (28, ⟨2, 32, [.int .i64 0, .slice none 0 0], .struct [(0, 1, false), (1, 1, false)], none⟩),
  (32, ⟨2, 16, [.int .i64 0, .int .i64 0], .struct [(0, 1, false), (1, 1, false)], none⟩),
  (33, ⟨2, 16, [.int .i64 0, .int .i64 0], .struct [(0, 1, false), (1, 1, false)], none⟩),
  (39, ⟨2, 32, [.int .i64 0, .slice none 0 0], .struct [(0, 1, false), (1, 1, false)], none⟩),
  (40, ⟨2, 32, [.int .i64 0, .slice none 0 0], .struct [(0, 1, false), (1, 1, false)], none⟩),
  (53, ⟨1, 8, [.pointer none], .word, none⟩),
  (59, ⟨1, 8, [.int .i64 0], .word, some .i64⟩),
  (66, ⟨3, 40, [.slice none 0 0, .int .i64 0, .int .i64 0], .struct [(0, 1, false), (1, 1, false), (2, 1, false)], none⟩),
  (67, ⟨3, 40, [.slice none 0 0, .int .i64 0, .int .i64 0], .struct [(0, 1, false), (1, 1, false), (2, 1, false)], none⟩),
  (72, ⟨2, 32, [.slice none 0 0, .int .i64 0], .struct [(0, 1, false), (1, 1, false)], none⟩),
  (73, ⟨2, 32, [.slice none 0 0, .int .i64 0], .struct [(0, 1, false), (1, 1, false)], none⟩),
  (75, ⟨1, 8, [.pointer none], .word, none⟩),
  (78, ⟨1, 8, [.nilFunc], .word, none⟩),
  (79, ⟨10, 80, [.nilFunc, .nilFunc, .nilFunc, .nilFunc, .nilFunc, .nilFunc, .nilFunc, .nilFunc, .nilFunc, .nilFunc], .array 10 78, none⟩),
  (82, ⟨1, 4, [.int .u32 0], .word, some .u32⟩),
  (83, ⟨1, 8, [.int .u64 0], .word, some .u64⟩),
  (90, ⟨1, 8, [.int .u64 0], .word, some .u64⟩),
  (102, ⟨1, 8, [.nilFunc], .word, none⟩),
  (103, ⟨1, 8, [.pointer none], .word, none⟩)]
theorem ttOk : TabOk Try.prog tt := tabOk (by kernel_rfl) (by kernel_rfl)
end Go.Proofs.Ytgebhcahgmonpaa
