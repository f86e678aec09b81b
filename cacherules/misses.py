"""How many misses a row of uses has, by each of the five rules."""

LAST_RULE = 4
MOST_ROOM = 1024
MOST_USES = 4294967295


def is_refused(rule, room):
    """Tell whether there is no such rule or no such room."""
    return not (0 <= rule <= LAST_RULE and 1 <= room <= MOST_ROOM)


def uses_after(uses):
    """Answer the count of a key's uses after one more."""
    return min(uses + 1, MOST_USES)


class Lines:
    """The lines in which the keys stand that are there.

    The first of `line` is the next to leave, but for the marks of rule 3.
    `uses` has every key that is there, in whichever line it stands.
    """

    def __init__(self, rule, room):
        self.rule = rule
        self.room = room
        self.line = []
        self.safe = []
        self.uses = {}
        self.marked = {}

    def use(self, key):
        """Use the key, and tell whether it was there."""
        if key in self.uses:
            self.use_again(key)
            return True
        if len(self.uses) == self.room:
            self.leave()
        self.come(key)
        return False

    def come(self, key):
        """Put a key in the line that was not there."""
        self.uses[key] = 1
        if self.rule == 2:
            self.place_by_uses(key)
        else:
            self.line.append(key)

    def use_again(self, key):
        """Move, count or mark a key that is there; by rule 0 nothing moves."""
        self.uses[key] = uses_after(self.uses[key])
        if self.rule == 1:
            self.line.remove(key)
            self.line.append(key)
        elif self.rule == 2:
            self.line.remove(key)
            self.place_by_uses(key)
        elif self.rule == 3:
            self.marked[key] = True
        elif self.rule == 4:
            self.make_safe(key)

    def place_by_uses(self, key):
        """Put the key, used just now, behind all that have no more uses than it.

        So the line is in the order of uses, and those with as many uses stand
        by their last use: the line is halved in search of the place.
        """
        uses = self.uses[key]
        low = 0
        high = len(self.line)
        while low < high:
            middle = (low + high) // 2
            if self.uses[self.line[middle]] <= uses:
                low = middle + 1
            else:
                high = middle
        self.line.insert(low, key)

    def make_safe(self, key):
        """Put the key at the end of the safe ones, which may give one back."""
        if key in self.safe:
            self.safe.remove(key)
        else:
            self.line.remove(key)
        self.safe.append(key)
        if len(self.safe) > self.room // 2:
            self.line.append(self.safe.pop(0))

    def leave(self):
        """Let one key leave.

        The safe ones never fill all of the room, so where no room is left
        the line has a first key.
        """
        while self.line[0] in self.marked:
            spared = self.line.pop(0)
            self.marked.pop(spared)
            self.line.append(spared)
        gone = self.line.pop(0)
        self.uses.pop(gone)


def misses(rule, room, keys):
    """Answer how many of the keys, used one after another, are not there; or -2."""
    if is_refused(rule, room):
        return [-2]
    lines = Lines(rule, room)
    missed = 0
    for key in keys:
        if not lines.use(key):
            missed += 1
    return [missed]
